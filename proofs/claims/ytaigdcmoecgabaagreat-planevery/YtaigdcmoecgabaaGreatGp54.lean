/- Contracts and lemmas. -/
import Derived.Test.YtaigdcmoecgabaaGreatGp45
import Derived.Test.YtaigdcmoecgabaaGreatGp53
set_option maxHeartbeats 16000000
set_option maxRecDepth 100000
namespace Go.Proofs.YtaigdcmoecgabaaGreat
set_option linter.unusedSimpArgs false
set_option linter.unusedVariables false
section
open Go.ChangeShapes Go.WideShapes Go.ChangeAt Go.RowKit Go.Lib Go.Proofs.Tryz
section
variable{w:World}{l s x q:Int}{ao:Option Addr}{L cap:Nat}{ts:List Tm}
theorem zmc(w:World)(hT:TRs w ao ts)(hL:L=ts.length)(hok:okL 1 (txs ts))(hc:Cf.may ⟨l,s,x,q⟩) :
  Calls prog 12 #[cfV ⟨l,s,x,q⟩,.slice ao L cap] w fun e w'=>∃(p:Nat)(Z:Lay)(w0:World),e=.returned (.pointer (some ⟨p,0,none⟩))/\Fr [] w w0/\RP w0 w' p ⟨l,s,x,q⟩ (txs ts) Z {ms0 with fd:=L}/\Z.nr=0:=by
 obtain⟨w1,HW1⟩:∃w1,Hid (w.alloc (.cells #[.int .i64 l,.int .i64 s,.int .i64 x,.int .i64 q] 23)=w1):=⟨_,rfl⟩;obtain⟨A,HA⟩:∃A,Hid (w.heap.size=A):=⟨_,rfl⟩;have HB:Hid (CfB w w1 A l s x q):=by rw[<-HW1.out,<-HA.out];exact CfB.made w l s x q
 obtain⟨f0,f1,f2,f3⟩:=HB.out.cells (Fr.refl _ _);have HO:Hid (Calls ..):=Ap.open_ok (w:=w1) (l:=l) (s:=s) (x:=x) (q:=q) (C:=0) (ao:=ao) (L:=L) (cap:=cap) (hT.keep HB.out.fr) hL hok (by omega) (by omega) hc;have HLn:Hid (L=ts.length):=hL;clear hT hL hok hc;unfold Ap.wC at HO;unfold cfV;go_enter func12,ntmps12;go_upto_region 1 with fail
 rw[HW1.out,HA.out];clear HW1 HA;go_wp2_with fail
 refine Calls.mono HO.out ?_;rintro e w2⟨p,sv,dv,Z,w0,rfl,hf0,hR,hnr⟩;have HF0:Hid (Fr [] w w0):=HB.out.fr.then hf0;have HFd:Hid (Calls prog 23 #[.pointer (some ⟨p,0,none⟩),.int .i64 (L:Int)] w2 fun e w'=>e=.returned (.int .i64 0)/\∃Z',RP w0 w' p ⟨l,s,x,q⟩ (txs ts) Z' {ms0 with fd:=L}/\Z'.nr=0):=by
  have e0:ms0.fd=0:=rfl;have e2:(txs ts).length=L:=by rw[zaf,<-HLn.out]
  refine Calls.mono (zaje hR (L:Int) ⟨by omega,by omega⟩) ?_;rintro e w'⟨he,hD⟩;have e1:zbj (txs ts) ms0.fd (L:Int)=L:=by
   unfold zbj;rw[if_neg (by omega)];omega
  rw[e1]at hD
  exact⟨he,_,hR.dn hD,hnr⟩
 clear hf0 hR hnr HO f0 f1 f2 f3 HB;go_wp2_with fail
 refine Calls.mono HFd.out ?_;rintro e w3⟨rfl,Z',hR,hz⟩;have HR:Hid _:=hR;have HZ:Hid _:=hz;clear hR hz HFd;go_wp2_with fail
 go_ret;exact⟨p,Z',w0,rfl,HF0.out,HR.out,HZ.out⟩
end
end
section
open Go.ChangeShapes Go.WideShapes Go.ChangeAt Go.RowKit Go.Lib Go.Maps Go.Sort Go.Shelf Go.Proofs.Tryz
def zbb(ln:Nat->Option Hl):Nat->List Int
 |0=>[]
 |m+1=>zbb ln m++(if 0<zco (ln m) then [zco (ln m)] else [])
theorem zgo(ln:Nat->Option Hl):∀m,(zbb ln m).length<=m
 |0=>Nat.le_refl _
 |m+1=>by
  have:=zgo ln m;rw[zbb,List.length_append];split<;>simp<;>omega
theorem zajn{w:World}{v:Value}{n:Nat}{xs:List Int}(h:w.ownsRow 0 3 1 v n (tkC xs))(hn:n=xs.length)(hs:n<1000000):Calls prog 47 #[v] w fun e w'=>e=.returned (.tuple #[])/\w'.ownsRow 0 3 1 v n (tkC (xs.mergeSort fun x y=>decide (x<=y)))/\Fr v.ownBlock.toList w w':=by
 subst hn;rcases h.2 with⟨rfl,h0⟩|⟨g,cap,cur,rfl,hb,hg,hnc,hcm,hcs,ht⟩
 .have e:xs=[]:=List.eq_nil_of_length_eq_zero h0;subst e;refine Calls.mono (AnyM.slices_Sort_int_none sortA none 0 w) ?_;rintro e w'⟨rfl,rfl⟩;exact⟨rfl,by rw[show ([]:List Int).mergeSort (fun x y=>decide (x<=y))=[] from by simp];exact h,Fr.refl _ _⟩
 have ht':cur.toList.take xs.length=xs.map (Value.int .i64):=by rw[Nat.mul_one]at ht;exact ht
 refine Calls.mono (AnyM.slices_Sort_int sortA g 0 cap xs w (holds_of_blockI hg ht') (lt_of_block hg) (by omega)) ?_;rintro e w'⟨rfl,n,os,rfl⟩;have hgb:=grownBy_sortedI (w:=w) (g:=g) (n:=n) (os:=os) (xs.mergeSort fun x y=>decide (x<=y)).toArray;refine⟨rfl,?_,Fr.grown hgb (fun k hk _=>by cases hk;simp[Value.ownBlock])⟩;have:=ownsRow_sortedI (n:=n) (os:=os) (ts:=xs.mergeSort fun x y=>decide (x<=y)) (by rw[List.length_mergeSort]) (Nat.zero_le g) hg hnc hcm hcs;exact this
section
variable{w0 w w':World}{p:Nat}{c:Cf}{T:List Tx}{Z:Lay}{s:Ms}
theorem zacs(h:RP w0 w p c T Z s):Calls prog 15 #[.pointer (some ⟨p,0,none⟩)] w fun e w'=>(∃v n,e=.returned v/\n=(zbb s.ln c.l.toNat).length/\w'.ownsRow 0 3 1 v n (tkC ((zbb s.ln c.l.toNat).mergeSort fun x y=>decide (x<=y))))/\Fr [] w w':=by
 have HT:Hid (Calls ..):=zgl h;have c0:=h.c0;have c10:w.cell? ⟨Z.z.mb,10,none⟩=some (.slice (some ⟨Z.z.lsB,0,none⟩) c.l.toNat Z.z.lsC):=h.m.mc rfl;obtain⟨N,hN⟩:∃N,c.l.toNat=N:=⟨_,rfl⟩;have HLn:Hid (∀i,i<N->∀W,Fr [] w W->W.cell? ⟨Z.z.lsB,i,none⟩=some (.pointer (some ⟨Z.z.la i,0,none⟩))/\Hid (Calls prog 46 #[.pointer (some ⟨Z.z.la i,0,none⟩)] W fun e w'=>e=.returned (.int .i64 (zco (s.ln i)))/\Fr [] W w')):=fun i hi W hf=>by
  have hM:=h.m.quiet hf;refine⟨?_,zcb (hM.la (by omega))⟩;obtain⟨cur,h1,h2⟩:=hM.st.ls;rw[crw h1];exact h2 i (by omega)
 have hN16:N<=16:=by have:=h.m.may.1;omega
 have hcap:N<=Z.z.lsC:=by have:=h.m.st.caps.1;omega
 obtain⟨iI,hiI,hzI,hsI,hbI⟩:=znv;rw[hN]at c10 ⊢
 clear h hN;go_enter func15,ntmps15;go_wp2_with fail
 refine Calls.mono HT.out ?_;rintro e w2⟨rfl,rfl⟩;clear HT;go_wp2_with fail
 go_loopw [3,18] (fun vv ii wr=>∃(i:Nat)(ao:Option Addr)(cap:Nat),vv=.slice ao (zbb s.ln i).length cap/\ii=.int .i64 i/\i<=N/\Hid (wr.ownsRow 0 3 1 (.slice ao (zbb s.ln i).length cap) (zbb s.ln i).length (tkC (zbb s.ln i))/\(∀b,(Value.slice ao (zbb s.ln i).length cap).ownBlock=some b->w.heap.size<=b)/\Fr [] w wr)) (fun _ ii _=>N-(RowKit.intOf ii).toNat)
 case atStart=>exact⟨0,none,0,rfl,rfl,Nat.zero_le _,World.ownsRow_nil _ _ _ _,fun b hb=>by simp[Value.ownBlock]at hb,Fr.refl _ _⟩
 obtain⟨i,ao,cap,rfl,rfl,hiN,HR⟩:=hrel;by_cases hi:i<N
 .obtain⟨ci,HC⟩:=HLn.out i hi wr HR.out.2.2;have hl:=zgo s.ln i;have HS:Hid (zbb s.ln (i+1)=zbb s.ln i++(if 0<zco (s.ln i) then [zco (s.ln i)] else [])):=rfl;obtain⟨m,hm⟩:∃m,zco (s.ln i)=m:=⟨_,rfl⟩;obtain⟨xs,hxs⟩:∃xs,zbb s.ln i=xs:=⟨_,rfl⟩;rw[hm]at HC HS
  rw[hxs]at HS HR hl ⊢
  clear hm hxs;go_wp2_with fail
  refine Calls.mono HC.out ?_;rintro e w3⟨rfl,hf3⟩;have HR3:Hid (w3.ownsRow 0 3 1 (.slice ao xs.length cap) xs.length (tkC xs)/\(∀b,(Value.slice ao xs.length cap).ownBlock=some b->w.heap.size<=b)/\Fr [] w w3):=⟨zao HR.out.1 hf3 (fun _ _=>by simp),HR.out.2.1,HR.out.2.2.then hf3⟩;clear HR HC hf3 ci;by_cases hm0:0<m
  .have HS':Hid (zbb s.ln (i+1)=xs++[m]):=by show _=_;rw[HS.out,if_pos hm0]
   obtain⟨w4,HW4⟩:∃w4,Hid (w3.alloc (.cells #[.int .i64 m] 3)=w4):=⟨_,rfl⟩;obtain⟨Y,HY⟩:∃Y,Hid (w3.heap.size=Y):=⟨_,rfl⟩;have hF4:Fr [] w3 w4:=by rw[<-HW4.out];exact Fr.alloc _ _ _
   have hY4:w4.heap[Y]? = some (.cells #[.int .i64 m] 3 (0,0)):=by rw[<-HW4.out,<-HY.out];exact heap_alloc_new _ _
   have HO4:Hid (w4.ownsRow 0 3 1 (.slice ao xs.length cap) xs.length (tkC xs)/\Fr [] w w4):=⟨zao HR3.out.1 hF4 (fun _ _=>by simp),HR3.out.2.2.then hF4⟩;have HCy:Hid (∀j u,([.int .i64 m]:List Value)[j]? = some u->w4.cell? ((⟨Y,0,none⟩:Addr).add j)=some u):=fun j u hu=>by
    rw[Addr.add_lit,Nat.zero_add,crw hY4,<-hu];simp
   have HB3:Hid (∀b,(Value.slice ao xs.length cap).ownBlock=some b->w.heap.size<=b):=HR3.out.2.1;have HZ:Hid (w.heap.size<=w4.heap.size):=HO4.out.2.size;clear hF4 hY4 HR3 HS;go_wp2_with (first
    |(at_builtin;rw[HW4.out,HY.out];clear HW4 HY;refine Ap.wpList_app _ rfl (.tmp 26) (.tmp 28) 28 rfl 3 iI (.int .i64 0) 1 8 zads hiI hzI hsI hbI rfl (by decide) (.slice ao xs.length cap) xs.length (tkC xs) (by rfl) HO4.out.1 ⟨Y,0,none⟩ 1 [.int .i64 m] (by rfl) rfl HCy.out (by simp[Value.oneCell']) (by omega) (by unfold maxLen;omega) ?_;intro g cap' w5 hO hW;have HN5:Hid (w5.ownsRow 0 3 1 (.slice (some ⟨g,0,none⟩) (xs.length+1) cap') (xs.length+1) (tkC (xs++[m]))/\w.heap.size<=g/\Fr [] w w5):=(by
       refine⟨by simpa[tkC]using hO,?_,HO4.out.2.on hW.fr (fun b hb=>HB3.out b (Option.mem_toList.1 hb))⟩;rcases hW with⟨e,_⟩|⟨e,_⟩
       .exact HB3.out g e
       .exact Nat.le_trans HZ.out e);clear hO hW)
    |fail)
   go_roundw;case rel=>
    refine⟨i+1,some ⟨g,0,none⟩,cap',?_,by simp,by omega,?_⟩
    .rw[HS'.out];simp
    rw[HS'.out];show _/\_/\_;rw[List.length_append];exact⟨HN5.out.1,fun b hb=>by
     have e:g=b:=(by simpa[Value.ownBlock]using hb);rw[<-e];exact HN5.out.2.1,HN5.out.2.2⟩
   case measure=>first|omega|(simp[RowKit.intOf];omega)
  have HS':Hid (zbb s.ln (i+1)=xs):=by show _=_;rw[HS.out,if_neg hm0];simp
  clear HS;go_wp2_with fail
  go_roundw;case rel=>
   refine⟨i+1,ao,cap,?_,by simp,by omega,?_⟩
   .rw[HS'.out]
   rw[HS'.out];exact HR3
  case measure=>first|omega|(simp[RowKit.intOf];omega)
 obtain rfl:i=N:=by omega
 have hl:=zgo s.ln i;have HSo:Hid (Calls ..):=zajn HR.out.1 rfl (by omega);have HB:Hid (∀b,(Value.slice ao (zbb s.ln i).length cap).ownBlock=some b->w.heap.size<=b):=HR.out.2.1;have HF:Hid (Fr [] w wr):=HR.out.2.2;clear HR HLn;go_wp2_with fail
 refine Calls.mono HSo.out ?_;rintro e w3⟨rfl,hO,hf3⟩;have HO:Hid (_/\Fr [] w w3):=⟨hO,HF.out.on hf3 (fun b hb=>HB.out b (Option.mem_toList.1 hb))⟩;clear hO hf3 HSo;go_wp2_with fail
 go_ret;exact⟨⟨_,_,rfl,rfl,HO.out.1⟩,HO.out.2⟩
end
section
variable{w:World}{ao:Option Addr}{n cap:Nat}{xs:List Int}
theorem zald(h:w.ownsRow 0 3 1 (.slice ao n cap) n (tkC xs))(hn:n=xs.length){k:Nat}(hk:k<n):∃g,ao=some ⟨g,0,none⟩/\n<=cap/\∀W,Fr [] w W->W.cell? ⟨g,k,none⟩=some (.int .i64 (xs.getD k 0)):=by
 rcases h.2 with⟨_,h0⟩|⟨g,cap',cur,hv,hb,hg,hnc,_,_,ht⟩
 .omega
 cases hv;refine⟨g,rfl,hnc,fun W hf=> ?_⟩;rw[crw (hf.keep hg (by simp))];have h1:(cur.toList.take n)[k]? = (tkC xs)[k]? :=by rw[Nat.mul_one]at ht;rw[ht]
 rw[List.getElem?_take_of_lt hk]at h1
 rw[<-Array.getElem?_toList,h1];simp[tkC,List.getD,show k<xs.length by omega]
theorem zaks{ln:Nat->Option Hl}{h:Hl}{i:Nat}(hi:ln i=some h)(hp:0<h.n):∀m,i<m->h.n∈zbb ln m
 |0,h0=>absurd h0 (by omega)
 |m+1,hm=>by
  rw[zbb,List.mem_append];by_cases e:i=m
  .right;subst e;simp[zco,hi,hp]
  exact Or.inl (zaks hi hp m (by omega))
theorem zaku(h:w.ownsRow 0 3 1 (.slice ao n cap) n (tkC xs))(hn:n=xs.length)(hs:n<1000000){y:Int}(hy:y∈xs):Calls prog 16 #[.slice ao n cap,.int .i64 y] w fun e w'=>e=.returned (.bool true)/\Fr [] w w':=by
 have HR:Hid (∀k,k<n->∃g,ao=some ⟨g,0,none⟩/\n<=cap/\∀W,Fr [] w W->W.cell? ⟨g,k,none⟩=some (.int .i64 (xs.getD k 0))):=fun k hk=>zald h hn hk;have HY:Hid (∃k,k<n/\xs.getD k 0=y):=by
  obtain⟨k,hk,e⟩:=List.mem_iff_getElem.1 hy;exact⟨k,by rw[hn];exact hk,by simp[List.getD,hk,e]⟩
 clear h hn hy;go_enter func16,ntmps16;go_wp2_with fail
 go_loopw [5] (fun ii wr=>∃i:Nat,ii=.int .i64 (i:Int)/\i<=n/\Hid (∀k,k<i->xs.getD k 0≠y)/\Hid (Fr [] w wr)) (fun ii _=>n-(RowKit.intOf ii).toNat)
 case atStart=>exact⟨0,rfl,Nat.zero_le _,fun k hk=>absurd hk (by omega),Fr.refl _ _⟩
 obtain⟨i,rfl,hin,HN,HF⟩:=hrel;by_cases hi:i<n
 .obtain⟨g,rfl,hc,hcell⟩:=HR.out i hi;have hx:=hcell wr HF.out;obtain⟨v,hv⟩:∃v,xs.getD i 0=v:=⟨_,rfl⟩;rw[hv]at hx
  have h1:(i:Int)<(n:Int):=by omega
  by_cases hvy:v=y
  .subst hvy;clear hcell HN HR;go_wp2_with fail
   go_ret;exact⟨rfl,HF.out⟩
  have HN2:Hid (∀k,k<i+1->xs.getD k 0≠y):=fun k hk=>by
   by_cases e:k=i
   .rw[e,hv];exact hvy
   exact HN.out k (by omega)
  clear hcell HN hv;go_wp2_with fail
  go_roundw;case rel=>exact⟨i+1,by simp,by omega,HN2,HF⟩
  case measure=>first|omega|(simp[RowKit.intOf];omega)
 exfalso;obtain⟨k,hk,e⟩:=HY.out;exact HN.out k (by omega) e
end
theorem Sim.eqs{s t:Ms}(h:Sim s t):t.ln=s.ln/\t.ma=s.ma/\t.hv=s.hv/\t.rd=s.rd/\t.fd=s.fd/\t.d=s.d/\t.en=s.en:=by
 rw[<-h];exact⟨rfl,rfl,rfl,rfl,rfl,rfl,rfl⟩
def SS(wp:World)(p:Nat)(c:Cf)(T:List Tx)(R:Ms->Int->Ms->Prop)(L:Nat)(J:Ms->Prop)(xs:List Int)(k:Nat)(K:Ms->Prop)(W:World):Prop:=
 ∃(w0:World)(Z:Lay)(s t s':Ms),Fr [] wp w0/\RP w0 W p c T Z t/\Z.nr=t.d/\Wf c T t/\t.k=k/\t.fd=L/\Sim s t/\Fw c T R s (xs.drop k) s'/\J s'/\K s
section
variable{wp W W':World}{p L k:Nat}{c:Cf}{T:List Tx}{R:Ms->Int->Ms->Prop}{J K:Ms->Prop}{xs:List Int}
theorem SS.fr(h:SS wp p c T R L J xs k K W):Fr [] wp W:=by
 obtain⟨w0,Z,s,t,s',h1,h2,_⟩:=h;exact h1.then h2.m.fr
theorem SS.quiet(h:SS wp p c T R L J xs k K W)(hf:Fr [] W W'):SS wp p c T R L J xs k K W':=by
 obtain⟨w0,Z,s,t,s',h1,h2,h3⟩:=h;exact⟨w0,Z,s,t,s',h1,h2.quiet hf,h3⟩
theorem SS.step(h:SS wp p c T R L J xs k K W)(hk:k<xs.length)(hk6:k<16000000):Calls prog 14 #[.pointer (some ⟨p,0,none⟩),.int .i64 (xs.getD k 0)] W fun e W'=>∃t0 kk n sh ct m,e=.returned (.tuple #[evV t0 kk n sh ct m,.int .i64 0])/\SS wp p c T R L J xs (k+1) (fun s1=>∃s,K s/\R s kk s1) W':=by
 obtain⟨w0,Z,s,t,s',h1,h2,h3,h4,h5,h6,h7,h8,h9,h10⟩:=h;rw[List.drop_eq_getElem_cons hk]at h8
 have hq:xs.getD k 0=xs[k]:=by simp[List.getD,hk]
 rw[hq];generalize xs[k]=x at h8 ⊢;cases h8 with
 |cons a b d e f g=>
  refine (zze h2 h3 h4 (by omega) b (by rw[h7.can];exact d)).mono ?_;rintro e2 W'⟨k2,n2,sh2,ct2,t',Z',rfl,hD,hz,hw,hr⟩;obtain⟨e1,e3,e4,e5,hs⟩:=e.sim hr h7;refine⟨_,k2,n2,sh2,ct2,_,rfl,w0,Z',_,t',s',h1,h2.dn hD,hz,hw,by rw[(hr.nu h4).2.1,h5],by rw[(hr.nu h4).2.2,h6],hs,g,h9,s,h10,by rw[<-e1];exact f⟩
theorem SS.held(h:SS wp p c T R L J xs k K W):Calls prog 15 #[.pointer (some ⟨p,0,none⟩)] W fun e W'=>(∃s ao n cap,K s/\e=.returned (.slice ao n cap)/\n=(zbb s.ln c.l.toNat).length/\W'.ownsRow 0 3 1 (.slice ao n cap) n (tkC ((zbb s.ln c.l.toNat).mergeSort fun x y=>decide (x<=y))))/\Fr [] W W':=by
 obtain⟨w0,Z,s,t,s',h1,h2,h3,h4,h5,h6,h7,h8,h9,h10⟩:=h;refine (zacs h2).mono ?_;rintro e W'⟨⟨v,n,rfl,hn,ho⟩,hf⟩;obtain⟨ao,cap,hv⟩:=Ap.own_slice ho;subst hv;rw[h7.eqs.1]at hn ho
 exact⟨⟨s,ao,n,cap,h10,rfl,hn,ho⟩,hf⟩
theorem SS.fin(h:SS wp p c T R L J xs xs.length K W):∃s,K s/\J s/\(∀W',Fr [] W W'->Calls prog 17 #[.pointer (some ⟨p,0,none⟩)] W' fun e w'=>e=.returned (.int .i64 s.ma)/\Fr [] W' w'):=by
 obtain⟨w0,Z,s,t,s',h1,h2,h3,h4,h5,h6,h7,h8,h9,h10⟩:=h;rw[List.drop_length]at h8
 cases h8;refine⟨s,h10,h9,fun W' hf=> ?_⟩;rw[<-h7.eqs.2.1];exact znr (h2.quiet hf)
theorem SS.close(h:SS wp p c T R L J xs xs.length K W):SS wp p c T R L J xs xs.length (fun s=>K s/\J s/\0<=s.ma) W:=by
 obtain⟨w0,Z,s,t,s',h1,h2,h3,h4,h5,h6,h7,h8,h9,h10⟩:=h;have h8':=h8;rw[List.drop_length]at h8'
 cases h8';exact⟨w0,Z,_,t,_,h1,h2,h3,h4,h5,h6,h7,h8,h9,h10,h9,by rw[<-h7.eqs.2.1];exact h4.gok.1.low⟩
theorem SS.first{w0:World}{Z:Lay}{s':Ms}(hf:Fr [] wp w0)(hR:RP w0 W p c T Z {ms0 with fd:=L})(hz:Z.nr=0)(hw:Wf c T {ms0 with fd:=L})(hF:Fw c T R {ms0 with fd:=L} xs s')(hJ:J s')(hK:K {ms0 with fd:=L}):SS wp p c T R L J xs 0 K W:=
 ⟨w0,Z,{ms0 with fd:=L},{ms0 with fd:=L},s',hf,hR,hz,hw,rfl,rfl,Sim.refl _,by rw[List.drop_zero];exact hF,hJ,hK⟩
theorem SS.weak{K':Ms->Prop}(h:SS wp p c T R L J xs k K W)(hK:∀s,K s->K' s):SS wp p c T R L J xs k K' W:=by
 obtain⟨w0,Z,s,t,s',h1,h2,h3,h4,h5,h6,h7,h8,h9,h10⟩:=h;exact⟨w0,Z,s,t,s',h1,h2,h3,h4,h5,h6,h7,h8,h9,hK s h10⟩
end
def Bnd(c:Cf)(T:List Tx)(L:Nat)(i j:Int):Prop:=okL 1 T/\1<=i/\i<j/\j<=(L:Int)/\2<=c.l
def CpP(c:Cf)(T:List Tx)(L:Nat)(i j r:Int):Prop:=(¬c.may/\r=7)\/(c.may/\¬Bnd c T L i j/\r=1)\/(c.may/\Bnd c T L i j/\c.w<=j-i/\r=6)\/(c.may/\Bnd c T L i j/\j-i<c.w/\Ch.Rch T i.toNat j.toNat/\r=15)\/(c.may/\Bnd c T L i j/\j-i<c.w/\¬Ch.Rch T i.toNat j.toNat/\r=0)
def AAns(c:Cf)(T:List Tx)(L:Nat)(i j r:Int):Prop:=(r≠0/\CpP c T L i j r)\/(CpP c T L i j 0/\¬rdS T j.toNat<=65536/\r=3)\/(CpP c T L i j 0/\rdS T j.toNat<=65536/\r=0)
theorem CpP.uniq{c:Cf}{T:List Tx}{L:Nat}{i j r r':Int}(h:CpP c T L i j r)(h':CpP c T L i j r'):r=r':=by
 rcases h with⟨a,rfl⟩|⟨a,b,rfl⟩|⟨a,b,d,rfl⟩|⟨a,b,d,e,rfl⟩|⟨a,b,d,e,rfl⟩<;>rcases h' with⟨a',rfl⟩|⟨a',b',rfl⟩|⟨a',b',d',rfl⟩|⟨a',b',d',e',rfl⟩|⟨a',b',d',e',rfl⟩<;>first|rfl|exact absurd a' a|exact absurd a a'|exact absurd b' b|exact absurd b b'|omega|exact absurd e' e|exact absurd e e'
theorem AAns.uniq{c:Cf}{T:List Tx}{L:Nat}{i j r r':Int}(h:AAns c T L i j r)(h':AAns c T L i j r'):r=r':=by
 rcases h with⟨a,b⟩|⟨a,b,rfl⟩|⟨a,b,rfl⟩<;>rcases h' with⟨a',b'⟩|⟨a',b',rfl⟩|⟨a',b',rfl⟩<;>first|rfl|exact b.uniq b'|exact absurd (b.uniq a') a|exact absurd (b'.uniq a) a'|exact absurd b' b|exact absurd b b'
section
variable{w:World}{l s x q i j:Int}{ao:Option Addr}{L cap:Nat}{ts:List Tm}
theorem zod(w:World)(hT:TRs w ao ts)(hL:L=ts.length)(hcap:L<=cap)(hi:i64 i)(hj:i64 j):Calls prog 29 #[cfV ⟨l,s,x,q⟩,.slice ao L cap,.int .i64 i,.int .i64 j] w fun e w'=>(∃r:Int,e=.returned (.int .i64 r)/\CpP ⟨l,s,x,q⟩ (txs ts) L i j r)/\Fr [] w w':=by
 obtain⟨w1,HW1⟩:∃w1,Hid (w.alloc (.cells #[.int .i64 l,.int .i64 s,.int .i64 x,.int .i64 q] 23)=w1):=⟨_,rfl⟩;obtain⟨A,HA⟩:∃A,Hid (w.heap.size=A):=⟨_,rfl⟩;have HB:Hid (CfB w w1 A l s x q):=by rw[<-HW1.out,<-HA.out];exact CfB.made w l s x q
 obtain⟨f0,f1,f2,f3⟩:=HB.out.cells (Fr.refl _ _);have HBc:Hid (∀W,Fr [] w1 W->_):=fun W hf=>HB.out.cells hf;have HC:Hid (Calls ..):=zla (l:=l) (s:=s) (x:=x) (q:=q) (cap:=cap) w1 (hT.keep HB.out.fr) hL;obtain⟨R,ec,hch⟩:=Ch.ChTold.ex (txs ts) i j;have HCh:Hid (∀W,Fr [] w W->Calls prog 60 #[.slice ao L cap,.int .i64 i,.int .i64 j] W fun e w'=>e=.returned (.tuple #[.bool R,.int .i64 (ec:Int)])/\Fr [] W w'):=fun W hf=>Ch.fChained_any ao L cap i j ec R ts W (hT.keep hf) hL hcap hi.1 hi.2 hj.1 hj.2 hch;have HR:Hid (okL 1 (txs ts)->1<=i/\i<j/\j<=(L:Int)->(R=true↔Ch.Rch (txs ts) i.toNat j.toNat)):=fun ho hb=>by
  rcases hch with⟨a,b,_⟩|⟨_,a,_⟩|⟨_,_,_,a⟩
  .exact absurd (a.ok.2 ho) b
  .rw[zaf,<-hL]at a;exact absurd hb a
  exact a
 have HLn:Hid (i64 i/\i64 j):=⟨hi,hj⟩;clear hT hL hcap hch hi hj;unfold cfV at HC;unfold cfV;go_enter func29,ntmps29;go_upto_region 1 with fail
 rw[HW1.out,HA.out];clear HW1 HA;go_wp2_with fail
 refine Calls.mono HC.out ?_;rintro e w2⟨⟨r,rfl,hr⟩,hf2⟩;have HF2:Hid (Fr [] w w2):=HB.out.fr.then hf2;obtain⟨g0,g1,g2,g3⟩:=HBc.out w2 hf2;clear hf2 HC f0 f1 f2 f3 HB HBc;rcases hr with⟨a,rfl⟩|⟨a,b,rfl⟩|⟨a,b,rfl⟩
 .have HMy:Hid _:=a;clear a HR HCh;go_wp2_with fail
  go_ret;exact⟨⟨7,rfl,Or.inl ⟨HMy.out,rfl⟩⟩,HF2.out⟩
 .have HMy:Hid _:=a;have HNo:Hid _:=b;clear a b HR HCh;go_wp2_with fail
  go_ret;exact⟨⟨1,rfl,Or.inr (Or.inl ⟨HMy.out,fun h=>HNo.out h.1,rfl⟩)⟩,HF2.out⟩
 have HMy:Hid _:=a;have HO:Hid _:=b;clear a b;by_cases h1:i<1
 .have H1:Hid (i<1):=h1;clear HR HCh;go_wp2_with fail
  go_ret;exact⟨⟨1,rfl,Or.inr (Or.inl ⟨HMy.out,fun h=>absurd H1.out (by have:=h.2.1;omega),rfl⟩)⟩,HF2.out⟩
 by_cases h2:j<=i
 .have H2:Hid (j<=i):=h2;clear HR HCh;go_wp2_with fail
  go_ret;exact⟨⟨1,rfl,Or.inr (Or.inl ⟨HMy.out,fun h=>absurd H2.out (by have:=h.2.2.1;omega),rfl⟩)⟩,HF2.out⟩
 by_cases h3:(L:Int)<j
 .have H3:Hid ((L:Int)<j):=h3;clear HR HCh;go_wp2_with fail
  go_ret;exact⟨⟨1,rfl,Or.inr (Or.inl ⟨HMy.out,fun h=>absurd H3.out (by have:=h.2.2.2.1;omega),rfl⟩)⟩,HF2.out⟩
 by_cases h4:l<2
 .have H4:Hid (l<2):=h4;clear HR HCh;go_wp2_with fail
  go_ret;exact⟨⟨1,rfl,Or.inr (Or.inl ⟨HMy.out,fun h=>absurd H4.out (by have h5:2<=l:=h.2.2.2.2;omega),rfl⟩)⟩,HF2.out⟩
 have HBn:Hid (Bnd ⟨l,s,x,q⟩ (txs ts) L i j):=⟨HO.out,by omega,by omega,by omega,by show 2<=l;omega⟩;have hw:IntKind.i64.wrap (j-i)=j-i:=by
  have a1:=HLn.out.1.1;have a2:=HLn.out.2.2;rw[IntKind.wrap_i64];omega
 have HRR:Hid (R=true↔Ch.Rch (txs ts) i.toNat j.toNat):=HR.out HO.out ⟨by omega,by omega,by omega⟩;clear HR;by_cases h5:x<=j-i
 .have H5:Hid (x<=j-i):=h5;clear HCh;go_wp2_with fail
  go_ret;exact⟨⟨6,rfl,Or.inr (Or.inr (Or.inl ⟨HMy.out,HBn.out,H5.out,rfl⟩))⟩,HF2.out⟩
 have H5:Hid (j-i<x):=by show j-i<x;omega
 have HC2:Hid (Calls ..):=HCh.out w2 HF2.out;clear HCh;go_wp2_with fail
 refine Calls.mono HC2.out ?_;rintro e w3⟨rfl,hf3⟩;have HF3:Hid (Fr [] w w3):=HF2.out.then hf3;clear hf3 HC2 h1 h2 h3 h4 h5 hw;cases R with
 |true=>
  go_wp2_with fail
  go_ret;exact⟨⟨15,rfl,Or.inr (Or.inr (Or.inr (Or.inl ⟨HMy.out,HBn.out,H5.out,HRR.out.1 (by simp),rfl⟩)))⟩,HF3.out⟩
 |false=>
  go_wp2_with fail
  go_ret;exact⟨⟨0,rfl,Or.inr (Or.inr (Or.inr (Or.inr ⟨HMy.out,HBn.out,H5.out,fun h=>absurd (HRR.out.2 h) (by simp),rfl⟩)))⟩,HF3.out⟩
theorem zakt(w:World)(hT:TRs w ao ts)(hL:L=ts.length)(hcap:L<=cap)(hi:i64 i)(hj:i64 j):Calls prog 9 #[cfV ⟨l,s,x,q⟩,.slice ao L cap,.int .i64 i,.int .i64 j] w fun e w'=>(∃r:Int,e=.returned (.int .i64 r)/\AAns ⟨l,s,x,q⟩ (txs ts) L i j r)/\Fr [] w w':=by
 obtain⟨w1,HW1⟩:∃w1,Hid (w.alloc (.cells #[.int .i64 l,.int .i64 s,.int .i64 x,.int .i64 q] 23)=w1):=⟨_,rfl⟩;obtain⟨A,HA⟩:∃A,Hid (w.heap.size=A):=⟨_,rfl⟩;have HB:Hid (CfB w w1 A l s x q):=by rw[<-HW1.out,<-HA.out];exact CfB.made w l s x q
 obtain⟨f0,f1,f2,f3⟩:=HB.out.cells (Fr.refl _ _);have HBc:Hid (∀W,Fr [] w1 W->_):=fun W hf=>HB.out.cells hf;have HC:Hid (Calls ..):=zpq l s x q w1;obtain⟨bc,hbc⟩:=Bad.ex (txs ts) 1;have HK:Hid (bc=0↔okL 1 (txs ts)):=Bad.ok hbc;have HL:Hid (∀W,Fr [] w W->Calls prog 36 #[.slice ao L cap] W fun e w'=>e=.returned (.int .i64 (bc:Int))/\Fr [] W w'):=fun W hf=>zvh ao L cap bc ts W (hT.keep hf) hL hbc;have HM:Hid (okL 1 (txs ts)->∀F:Nat,F<=L->∀W,Fr [] w W->Calls prog 13 #[.slice ao L cap,.int .i64 (F:Int)] W fun e w'=>e=.returned (.int .i64 (rdS (txs ts) F:Int))/\Fr [] W w'):=fun ho F hF W hf=>zacr W (hT.keep hf) hL hcap ho hF;obtain⟨R,ec,hch⟩:=Ch.ChTold.ex (txs ts) i j;have HCh:Hid (∀W,Fr [] w W->Calls prog 37 #[.slice ao L cap,.int .i64 i,.int .i64 j] W fun e w'=>e=.returned (.tuple #[.bool R,.int .i64 (ec:Int)])/\Fr [] W w'):=fun W hf=>Ch.zChained_any ao L cap i j ec R ts W (hT.keep hf) hL hi.1 hi.2 hj.1 hj.2 hch;have HR:Hid (okL 1 (txs ts)->1<=i/\i<j/\j<=(L:Int)->(R=true↔Ch.Rch (txs ts) i.toNat j.toNat)):=fun ho hb=>by
  rcases hch with⟨a,b,_⟩|⟨_,a,_⟩|⟨_,_,_,a⟩
  .exact absurd (a.ok.2 ho) b
  .rw[zaf,<-hL]at a;exact absurd hb a
  exact a
 have HLn:Hid (i64 i/\i64 j):=⟨hi,hj⟩;clear hT hL hcap hch hi hj hbc;unfold cfV;rcases zzn ⟨l,s,x,q⟩ with⟨hm,he⟩|⟨hm,he⟩;case inr=>
  rw[he]at HC
  have HMy:Hid (¬Cf.may ⟨l,s,x,q⟩):=hm;clear hm he HL HK HM HCh HR;go_enter func9,ntmps9;go_upto_region 1 with fail
  rw[HW1.out,HA.out];clear HW1 HA;go_wp2_with fail
  refine Calls.mono HC.out ?_;rintro e w2⟨rfl,hf2⟩;have HF2:Hid (Fr [] w w2):=HB.out.fr.then hf2;clear hf2 HC f0 f1 f2 f3 HB HBc;go_wp2_with fail
  go_ret;exact⟨⟨7,rfl,Or.inl ⟨by decide,Or.inl ⟨HMy.out,rfl⟩⟩⟩,HF2.out⟩
 rw[he]at HC
 have HMy:Hid (Cf.may ⟨l,s,x,q⟩):=hm;clear hm he;go_enter func9,ntmps9;go_upto_region 1 with fail
 rw[HW1.out,HA.out];clear HW1 HA;go_wp2_with fail
 refine Calls.mono HC.out ?_;rintro e w2⟨rfl,hf2⟩;have HFa:Hid (Fr [] w w2/\Fr [] w1 w2):=⟨HB.out.fr.then hf2,hf2⟩;have HL2:Hid (Calls ..):=HL.out w2 HFa.out.1;clear hf2 HC HL f0 f1 f2 f3 HB;go_wp2_with fail
 refine Calls.mono HL2.out ?_;rintro e w3⟨rfl,hf3⟩;have HF2:Hid (Fr [] w w3):=HFa.out.1.then hf3;obtain⟨g0,g1,g2,g3⟩:=HBc.out w3 (HFa.out.2.then hf3);clear hf3 HL2 HFa HBc;by_cases hb:bc=0;case neg=>
  have HO:Hid (¬okL 1 (txs ts)):=fun h=>hb (HK.out.2 h);have hb0:((bc:Int) != 0)=true:=by simp[hb]
  have hb1:((bc:Int)==0)=false:=by simp[hb]
  clear HK hb HM HCh HR;go_wp2_with fail
  go_ret;exact⟨⟨1,rfl,Or.inl ⟨by decide,Or.inr (Or.inl ⟨HMy.out,fun h=>HO.out h.1,rfl⟩)⟩⟩,HF2.out⟩
 subst hb;have HO:Hid (okL 1 (txs ts)):=HK.out.1 rfl;clear HK;by_cases h1:i<1
 .have H1:Hid (i<1):=h1;clear HR HCh HM;go_wp2_with fail
  go_ret;exact⟨⟨1,rfl,Or.inl ⟨by decide,Or.inr (Or.inl ⟨HMy.out,fun h=>absurd H1.out (by have:=h.2.1;omega),rfl⟩)⟩⟩,HF2.out⟩
 by_cases h2:j<=i
 .have H2:Hid (j<=i):=h2;clear HR HCh HM;go_wp2_with fail
  go_ret;exact⟨⟨1,rfl,Or.inl ⟨by decide,Or.inr (Or.inl ⟨HMy.out,fun h=>absurd H2.out (by have:=h.2.2.1;omega),rfl⟩)⟩⟩,HF2.out⟩
 by_cases h3:(L:Int)<j
 .have H3:Hid ((L:Int)<j):=h3;clear HR HCh HM;go_wp2_with fail
  go_ret;exact⟨⟨1,rfl,Or.inl ⟨by decide,Or.inr (Or.inl ⟨HMy.out,fun h=>absurd H3.out (by have:=h.2.2.2.1;omega),rfl⟩)⟩⟩,HF2.out⟩
 by_cases h4:l<2
 .have H4:Hid (l<2):=h4;clear HR HCh HM;go_wp2_with fail
  go_ret;exact⟨⟨1,rfl,Or.inl ⟨by decide,Or.inr (Or.inl ⟨HMy.out,fun h=>absurd H4.out (by have h5:2<=l:=h.2.2.2.2;omega),rfl⟩)⟩⟩,HF2.out⟩
 have HBn:Hid (Bnd ⟨l,s,x,q⟩ (txs ts) L i j):=⟨HO.out,by omega,by omega,by omega,by show 2<=l;omega⟩;have hw:IntKind.i64.wrap (j-i)=j-i:=by
  have a1:=HLn.out.1.1;have a2:=HLn.out.2.2;rw[IntKind.wrap_i64];omega
 have HRR:Hid (R=true↔Ch.Rch (txs ts) i.toNat j.toNat):=HR.out HO.out ⟨by omega,by omega,by omega⟩;obtain⟨F,rfl⟩:∃F:Nat,j=(F:Int):=⟨j.toNat,by omega⟩;have HM2:Hid (∀W,Fr [] w W->_):=HM.out HO.out F (by omega);clear HR HM;by_cases h5:x<=(F:Int)-i
 .have H5:Hid (x<=(F:Int)-i):=h5;clear HCh HM2;go_wp2_with fail
  go_ret;exact⟨⟨6,rfl,Or.inl ⟨by decide,Or.inr (Or.inr (Or.inl ⟨HMy.out,HBn.out,H5.out,rfl⟩))⟩⟩,HF2.out⟩
 have H5:Hid ((F:Int)-i<x):=by show (F:Int)-i<x;omega
 have HC2:Hid (Calls ..):=HCh.out w3 HF2.out;clear HCh;go_wp2_with fail
 refine Calls.mono HC2.out ?_;rintro e w4⟨rfl,hf4⟩;have HF4:Hid (Fr [] w w4):=HF2.out.then hf4;clear hf4 HC2 h1 h2 h3 h4 h5 hw HF2;cases R with
 |true=>
  clear HM2;go_wp2_with fail
  go_ret;exact⟨⟨15,rfl,Or.inl ⟨by decide,Or.inr (Or.inr (Or.inr (Or.inl ⟨HMy.out,HBn.out,H5.out,HRR.out.1 (by simp),rfl⟩)))⟩⟩,HF4.out⟩
 |false=>
  have HP:Hid (CpP ⟨l,s,x,q⟩ (txs ts) L i (F:Int) 0):=Or.inr (Or.inr (Or.inr (Or.inr ⟨HMy.out,HBn.out,H5.out,fun h=>absurd (HRR.out.2 h) (by simp),rfl⟩)));have HM4:Hid (Calls ..):=HM2.out w4 HF4.out;obtain⟨S,hS⟩:∃S,rdS (txs ts) F=S:=⟨_,rfl⟩;rw[hS]at HM4
  have HS:Hid (rdS (txs ts) (F:Int).toNat=S):=by show _=S;rw[<-hS];simp
  clear HM2 hS HRR;by_cases h6:S<=65536
  .have hlt:¬65536<(S:Int):=by omega
   have H6:Hid (S<=65536):=h6;clear h6;go_wp2_with fail
   refine Calls.mono HM4.out ?_;rintro e w5⟨rfl,hf5⟩;have HF5:Hid (Fr [] w w5):=HF4.out.then hf5;clear hf5 HM4;go_wp2_with fail
   go_ret;exact⟨⟨0,rfl,Or.inr (Or.inr ⟨HP.out,by rw[HS.out];exact H6.out,rfl⟩)⟩,HF5.out⟩
  have hlt:65536<(S:Int):=by omega
  have H6:Hid (¬S<=65536):=h6;clear h6;go_wp2_with fail
  refine Calls.mono HM4.out ?_;rintro e w5⟨rfl,hf5⟩;have HF5:Hid (Fr [] w w5):=HF4.out.then hf5;clear hf5 HM4;go_wp2_with fail
  go_ret;exact⟨⟨3,rfl,Or.inr (Or.inl ⟨HP.out,by rw[HS.out];exact H6.out,rfl⟩)⟩,HF5.out⟩
theorem zrr(T:List Tx)(m:Nat):∀k,k<=m->rdS (T.take m) k=rdS T k
 |0,_=>rfl
 |k+1,h=>by
  rw[rdS,rdS,zrr T m k (by omega)];unfold cst wsAt;have e:(((k+1:Nat):Int)-1).toNat=k:=by omega
  rw[e];simp[List.getD,List.getElem?_take,show k<m by omega]
def APl(w0:World)(c:Cf)(T:List Tx)(L:Nat)(i j:Int)(e:Ending)(w':World):Prop:=∃v r,e=.returned (.tuple #[v,.int .i64 r])/\AAns c T L i j r/\(r≠0->v=.slice none 0 0)/\(r=0->PlV w0 c T (fun _ _ _=>True) {ms0 with fd:=L} (ApE i.toNat j.toNat) v w')
theorem zmf(w:World)(hT:TRs w ao ts)(hL:L=ts.length)(hcap:L<=cap)(hi:i64 i)(hj:i64 j):Calls prog 8 #[cfV ⟨l,s,x,q⟩,.slice ao L cap,.int .i64 i,.int .i64 j] w fun e w'=>Fr [] w w'/\APl w ⟨l,s,x,q⟩ (txs ts) L i j e w':=by
 have hSh:CpP ⟨l,s,x,q⟩ (txs ts) L i j 0->∀W,Fr [] w W->Calls prog 30 #[.slice ao j.toNat cap] W fun e w'=>(∃b:Bool,e=.returned (.bool b)/\(b=true↔rdS (txs ts) j.toNat<=65536))/\Fr [] W w':=fun h W hf=>by
  have hb:Bnd ⟨l,s,x,q⟩ (txs ts) L i j:=by
   rcases h with⟨_,h⟩|⟨_,_,h⟩|⟨_,_,_,h⟩|⟨_,_,_,_,h⟩|⟨_,h,_⟩<;>first|exact absurd h (by decide)|exact h
  have hjl:j.toNat<=ts.length:=by have:=hb.2.2.2.1;omega
  have e1:txs (ts.take j.toNat)=(txs ts).take j.toNat:=by simp[txs,List.map_take]
  have h1:=zjn (ts:=ts.take j.toNat) (L:=j.toNat) (cap:=cap) W ((hT.keep hf).take _) (by rw[List.length_take];omega) (by omega) (by rw[e1];exact zaaj hb.1 _);rw[e1,zrr _ _ _ (Nat.le_refl _)]at h1
  exact h1
 by_cases hg:CpP ⟨l,s,x,q⟩ (txs ts) L i j 0/\rdS (txs ts) j.toNat<=65536
 .obtain⟨hg,hs⟩:=hg;obtain⟨hm,hb,hw,hr⟩:Cf.may ⟨l,s,x,q⟩/\Bnd ⟨l,s,x,q⟩ (txs ts) L i j/\j-i<x/\¬Ch.Rch (txs ts) i.toNat j.toNat:=by
   rcases hg with⟨_,h⟩|⟨_,_,h⟩|⟨_,_,_,h⟩|⟨_,_,_,_,h⟩|⟨a,b,d,e,_⟩<;>first|exact absurd h (by decide)|exact⟨a,b,d,e⟩
  obtain⟨b1,b2,b3,b4,b5⟩:=id hb;have ei:((i.toNat:Nat):Int)=i:=by omega
  have ej:((j.toNat:Nat):Int)=j:=by omega
  have key:=zzh (w:=w) (l:=l) (s:=s) (x:=x) (q:=q) (ao:=ao) (L:=L) (cap:=cap) (i:=i.toNat) (j:=j.toNat) (ts:=ts) (P:=fun n=>Ch.Rch (txs ts) i.toNat n) hT hL hcap b1 hm ⟨by omega,by omega,by omega⟩ (by omega) b5 .base (fun m n h1 h2 h3=>by
   obtain⟨y,hy,z,hz,e⟩:=h3;refine .step h1 h2 ⟨y.key,⟨y,?_,rfl⟩,⟨z,?_,e.symm⟩⟩
   .unfold wsAt at hy
    rwa [show ((m:Int)-1).toNat=m-1 by omega]at hy
   unfold wsAt at hz
   rwa [show ((n:Int)-1).toNat=n-1 by omega]at hz) hr (fun W hf=> ?_) (fun W hf=> ?_)
  .rw[ei,ej]at key
   refine key.mono ?_;rintro e w'⟨hf,v,rfl,hp⟩;exact⟨hf,v,0,rfl,Or.inr (Or.inr ⟨hg,hs,rfl⟩),fun h=>absurd rfl h,fun _=>hp⟩
  .rw[ei,ej];refine (zod W (hT.keep hf) hL hcap hi hj).mono ?_;rintro e w'⟨⟨r,rfl,hr⟩,hf'⟩;exact⟨by rw[hr.uniq hg],hf'⟩
  refine (hSh hg W hf).mono ?_;rintro e w'⟨⟨b,rfl,hb⟩,hf'⟩;exact⟨by rw[hb.2 hs],hf'⟩
 obtain⟨w1,HW1⟩:∃w1,Hid (w.alloc (.cells #[.int .i64 l,.int .i64 s,.int .i64 x,.int .i64 q] 23)=w1):=⟨_,rfl⟩;obtain⟨A,HA⟩:∃A,Hid (w.heap.size=A):=⟨_,rfl⟩;have HB:Hid (CfB w w1 A l s x q):=by rw[<-HW1.out,<-HA.out];exact CfB.made w l s x q
 obtain⟨f0,f1,f2,f3⟩:=HB.out.cells (Fr.refl _ _);have HC:Hid (Calls ..):=zod (l:=l) (s:=s) (x:=x) (q:=q) (cap:=cap) w1 (hT.keep HB.out.fr) hL hcap hi hj;have HS:Hid (CpP ⟨l,s,x,q⟩ (txs ts) L i j 0->∀W,Fr [] w W->_):=hSh;have HG:Hid (¬(CpP ⟨l,s,x,q⟩ (txs ts) L i j 0/\rdS (txs ts) j.toNat<=65536)):=hg;have HTl:Hid (0<L->∃a,ao=some a):=fun h=>by
  obtain⟨b,off,e,_⟩:=hT.lies (by omega);exact⟨_,e⟩
 have HLc:Hid (L<=cap):=hcap;clear hT hL hg hSh hi hj hcap;unfold cfV at HC;unfold cfV;go_enter func8,ntmps8;go_upto_region 1 with fail
 rw[HW1.out,HA.out];clear HW1 HA;go_wp2_with fail
 refine Calls.mono HC.out ?_;rintro e w2⟨⟨r,rfl,hr⟩,hf2⟩;have HF2:Hid (Fr [] w w2):=HB.out.fr.then hf2;have HR:Hid (CpP ⟨l,s,x,q⟩ (txs ts) L i j r):=hr;clear hf2 HC f0 f1 f2 f3 HB hr;by_cases h0:r=0
 .subst h0;obtain⟨b2,b3,b4⟩:1<=i/\i<j/\j<=(L:Int):=by
   rcases HR.out with⟨_,h⟩|⟨_,_,h⟩|⟨_,_,_,h⟩|⟨_,_,_,_,h⟩|⟨_,h,_⟩<;>first|exact absurd h (by decide)|exact⟨h.2.1,h.2.2.1,h.2.2.2.1⟩
  obtain⟨F,rfl⟩:∃F:Nat,j=(F:Int):=⟨j.toNat,by omega⟩;obtain⟨a,rfl⟩:=HTl.out (by omega);have hFc:(F:Int)<=(cap:Int):=by have:=HLc.out;omega
  have HS2:Hid (Calls ..):=HS.out HR.out w2 HF2.out;have eF:(F:Int).toNat=F:=by simp
  rw[eF]at HS2
  clear HS HTl HLc;go_wp2_with fail
  refine Calls.mono HS2.out ?_;rintro e w3⟨⟨b,rfl,hb⟩,hf3⟩;have hnb:¬rdS (txs ts) (F:Int).toNat<=65536:=fun h=>HG.out ⟨HR.out,h⟩;obtain rfl:b=false:=by
   cases b with
   |false=>rfl
   |true=>exact absurd (by rw[eF];exact hb.1 rfl) hnb
  have HNb:Hid (¬rdS (txs ts) (F:Int).toNat<=65536):=hnb;have HF3:Hid (Fr [] w w3):=HF2.out.then hf3;clear HS2 hb hnb hf3 HG HF2 eF;go_wp2_with fail
  go_ret2;exact⟨HF3.out,_,3,rfl,Or.inr (Or.inl ⟨HR.out,HNb.out,rfl⟩),fun _=>rfl,fun h=>by omega⟩
 have hr0:(r != 0)=true:=by simp[h0]
 have hr1:(r==0)=false:=by simp[h0]
 have H0:Hid (r≠0):=h0;clear h0 HS HG HTl HLc;go_wp2_with fail
 go_ret2;exact⟨HF2.out,_,r,rfl,Or.inl ⟨H0.out,HR.out⟩,fun _=>rfl,fun h=>absurd h H0.out⟩
end
section
variable{w:World}{l s x q i j:Int}{ao:Option Addr}{L cap:Nat}{ts:List Tm}
theorem zakw(w:World)(hT:TRs w ao ts)(hL:L=ts.length)(hcap:L<=cap)(hL2:L<2 ^ 21)(hfew:Few ts)(hi:i64 i)(hj:i64 j)(hLv:∀W,Calls prog 11 #[] W fun e w'=>e=.returned (.bool true)/\Fr [] W w') :
  Calls prog 3 #[cfV ⟨l,s,x,q⟩,.slice ao L cap,.agg #[.int .i64 i,.int .i64 j]] w fun e w'=>e=.returned (.bool true)/\Fr [] w w':=by
 obtain⟨v1,HV1⟩:∃v1,Hid (w.alloc (.cells #[.int .i64 l,.int .i64 s,.int .i64 x,.int .i64 q] 23)=v1):=⟨_,rfl⟩;obtain⟨w1,HW1⟩:∃w1,Hid (v1.alloc (.cells #[.int .i64 i,.int .i64 j] 26)=w1):=⟨_,rfl⟩;obtain⟨A,HA⟩:∃A,Hid (w.heap.size=A):=⟨_,rfl⟩;have HB0:Hid (CfB w v1 A l s x q):=by rw[<-HV1.out,<-HA.out];exact CfB.made w l s x q
 have hf1:Fr [] v1 w1:=by rw[<-HW1.out];exact Fr.alloc [] v1 _
 have hP1:w1.heap[A+1]? = some (.cells #[.int .i64 i,.int .i64 j] 26 (0,0)):=by rw[<-HW1.out,show A+1=v1.heap.size by rw[<-HV1.out,<-HA.out];simp];exact heap_alloc_new _ _
 have HB:Hid (Fr [] w w1):=HB0.out.fr.then hf1;have HBc:Hid (∀W,Fr [] w1 W->_):=fun W hf=>HB0.out.cells (hf1.then hf);have HT:Hid (∀W,Fr [] w W->TRs W ao ts):=fun W hf=>hT.keep hf;have HLv:Hid (∀W,Calls prog 11 #[] W fun e w'=>e=.returned (.bool true)/\Fr [] W w'):=hLv;have HLn:Hid (L=ts.length/\L<=cap/\L<2 ^ 21/\Few ts):=⟨hL,hcap,hL2,hfew⟩;have HIJ:Hid (i64 i/\i64 j):=⟨hi,hj⟩;have HTw:Hid (Calls ..):=zwa ao L cap ts w1 (hT.keep HB.out) hL hL2 hfew;have p0:w1.cell? ⟨A+1,0,none⟩=some (.int .i64 i):=by rw[crw hP1];rfl
 have p1:w1.cell? ⟨A+1,1,none⟩=some (.int .i64 j):=by rw[crw hP1];rfl
 clear hT hL hcap hL2 hfew hLv hi hj hf1 hP1;unfold cfV;go_enter func3,ntmps3;go_upto_region 1 with fail
 rw[HV1.out,HA.out,HW1.out];clear HV1 HW1 HA;go_wp2_with fail
 refine Calls.mono HTw.out ?_;rintro e w2⟨tb,ks,rfl,hge,hrow,htwd,hf2⟩;have HF2:Hid (Fr [] w w2/\Fr [] w1 w2):=⟨HB.out.then hf2,hf2⟩;have HR2:Hid (∀W,Fr [] w2 W->TRs W (some ⟨tb,0,none⟩) (twTs ts ks)/\Calls prog 10 #[.slice (some ⟨tb,0,none⟩) L (L+1),.slice ao L cap] W fun e w'=>e=.returned (.bool true)/\Fr [] W w'):=fun W hf=>by
  have hk:=htwd.keep hf (by simp);have hr:=hf.keep hrow (by simp);refine⟨zzq (HT.out w1 HB.out) hk hr,?_⟩;exact zwb tb ks w1 ao L cap ts W (HT.out W (HF2.out.1.then hf)) HLn.out.1 HLn.out.2.2.1 HLn.out.2.2.2 hk hr
 have hks:txs (twTs ts ks)=txs ts:=zacw ts ks htwd.len;have hlen:(twTs ts ks).length=ts.length:=zbv ts ks htwd.len;have HPl:Hid (Calls prog 8 #[cfV ⟨l,s,x,q⟩,.slice (some ⟨tb,0,none⟩) L (L+1),.int .i64 i,.int .i64 j] w2 fun e w'=>Fr [] w2 w'/\APl w2 ⟨l,s,x,q⟩ (txs ts) L i j e w'):=by
  have:=zmf (l:=l) (s:=s) (x:=x) (q:=q) (L:=L) (cap:=L+1) w2 (HR2.out w2 (Fr.refl _ _)).1 (by rw[hlen];exact HLn.out.1) (by omega) HIJ.out.1 HIJ.out.2
  rwa [hks]at this
 obtain⟨g0,g1,g2,g3⟩:=HBc.out w2 hf2;have HSl:Hid (L<=L+1):=Nat.le_succ L;clear hge hrow htwd hf2 hks hlen HTw p0 p1;unfold cfV at HPl;go_wp2_with fail
 refine Calls.mono HPl.out ?_;rintro e w3⟨hf3,v,r,rfl,hA,hnil,hpl⟩;have HF3:Hid (Fr [] w w3/\Fr [] w1 w3/\Fr [] w2 w3):=⟨HF2.out.1.then hf3,HF2.out.2.then hf3,hf3⟩;have HRf:Hid (Calls ..):=zakt (l:=l) (s:=s) (x:=x) (q:=q) (cap:=cap) w3 (HT.out w3 HF3.out.1) HLn.out.1 HLn.out.2.1 HIJ.out.1 HIJ.out.2;have HA:Hid (AAns ⟨l,s,x,q⟩ (txs ts) L i j r):=hA;have HP:Hid ((r≠0->v=.slice none 0 0)/\(r=0->PlV w2 ⟨l,s,x,q⟩ (txs ts) (fun _ _ _=>True) {ms0 with fd:=L} (ApE i.toNat j.toNat) v w3)):=⟨hnil,hpl⟩;clear g0 g1 g2 g3 HPl hf3 hA hnil hpl;obtain⟨g0,g1,g2,g3⟩:=HBc.out w3 HF3.out.2.1;unfold cfV at HRf;go_wp2_with fail
 refine Calls.mono HRf.out ?_;rintro e w4⟨⟨r',rfl,hr'⟩,hf4⟩;obtain rfl:r'=r:=hr'.uniq HA.out;have HF4:Hid (Fr [] w w4/\Fr [] w1 w4/\Fr [] w2 w4/\Fr [] w3 w4):=⟨HF3.out.1.then hf4,HF3.out.2.1.then hf4,HF3.out.2.2.then hf4,hf4⟩;have HLf:Hid (Calls ..):=(HR2.out w4 HF4.out.2.2.1).2;clear hr' hf4 HRf g0 g1 g2 g3;go_wp2_with fail
 refine Calls.mono HLf.out ?_;rintro e w5⟨rfl,hf5⟩;have HF5:Hid (Fr [] w w5/\Fr [] w1 w5/\Fr [] w2 w5/\Fr [] w3 w5):=⟨HF4.out.1.then hf5,HF4.out.2.1.then hf5,HF4.out.2.2.1.then hf5,HF4.out.2.2.2.then hf5⟩;clear hf5 HLf HF4 HF3 HR2;by_cases h0:r'=0;case neg=>
  have hr0:(r' != 0)=true:=by simp[h0]
  have hr1:(r'==0)=false:=by simp[h0]
  obtain rfl:=HP.out.1 h0;have HLv5:Hid (Calls ..):=HLv.out w5;clear h0 HP HLv;go_wp2_with fail
  refine Calls.mono HLv5.out ?_;rintro e w6⟨rfl,hf6⟩;have HF6:Hid (Fr [] w w6):=HF5.out.1.then hf6;clear hf6 HLv5;go_wp2_with fail
  go_ret;exact⟨rfl,HF6.out⟩
 subst h0;obtain⟨hcp,hsh⟩:CpP ⟨l,s,x,q⟩ (txs ts) L i j 0/\rdS (txs ts) j.toNat<=65536:=by
  rcases HA.out with⟨h,_⟩|⟨_,_,h⟩|⟨a,b,_⟩
  .exact absurd rfl h
  .exact absurd h (by decide)
  exact⟨a,b⟩
 obtain⟨hmay,hok,hi1,hij,hjL⟩:Cf.may ⟨l,s,x,q⟩/\okL 1 (txs ts)/\1<=i/\i<j/\j<=(L:Int):=by
  rcases hcp with⟨_,h⟩|⟨_,_,h⟩|⟨_,_,_,h⟩|⟨_,_,_,_,h⟩|⟨a,b,_⟩<;>first|exact absurd h (by decide)|exact⟨a,b.1,b.2.1,b.2.2.1,b.2.2.2.1⟩
 by_cases h200:200<L
 .have hgt:(200:Int)<(L:Int):=by omega
  have HLv5:Hid (Calls ..):=HLv.out w5;clear HP HLv hmay hok hsh hcp hi1 hij hjL;go_wp2_with fail
  refine Calls.mono HLv5.out ?_;rintro e w6⟨rfl,hf6⟩;have HF6:Hid (Fr [] w w6):=HF5.out.1.then hf6;clear hf6 HLv5;go_wp2_with fail
  go_ret;exact⟨rfl,HF6.out⟩
 have hgt:¬(200:Int)<(L:Int):=by omega
 obtain⟨xs,s',hown,hFw,hJ,hnew⟩:=HP.out.2 rfl;have hown5:=zao hown HF5.out.2.2.2 (fun _ _=>by simp);obtain⟨vo,vc,hv⟩:=Ap.own_slice hown5;subst hv;obtain⟨jn,rfl⟩:∃jn:Nat,j=(jn:Int):=⟨j.toNat,by omega⟩;obtain⟨im,rfl⟩:∃im:Nat,i=(im:Int):=⟨i.toNat,by omega⟩;simp only[Int.toNat_natCast]at hJ hsh;have hmost:xs.length<=rdS (txs ts) jn:=zalj hFw (zrf _ _ _) hJ.2.2.2 (show jn<=L by omega);have hlenx:xs.length<=65536:=Nat.le_trans hmost hsh;have HOp:Hid (Calls ..):=zmc (l:=l) (s:=s) (x:=x) (q:=q) (cap:=cap) w5 (HT.out w5 HF5.out.1) HLn.out.1 hok hmay;have HWf:Hid (Wf ⟨l,s,x,q⟩ (txs ts) {ms0 with fd:=L}):=Wf.first hmay hok (by rw[zaf];exact HLn.out.1);have HFw:Hid (Fw ⟨l,s,x,q⟩ (txs ts) (fun _ _ _=>True) {ms0 with fd:=L} xs s'/\ApE im jn s'):=⟨hFw,hJ⟩;have HRow:Hid (∀k,k<xs.length->∃g,vo=some ⟨g,0,none⟩/\xs.length<=vc/\∀W,Fr [] w5 W->W.cell? ⟨g,k,none⟩=some (.int .i64 (xs.getD k 0))):=fun k hk=>zald hown5 rfl hk;have hvc:xs.length<=vc:=by
  rcases hown5.2 with⟨hh,h0⟩|⟨g,cap',cur,hvv,hb,hg,hnc,_⟩
  .omega
  cases hvv;exact hnc
 have HMs:Hid (∀W,Fr [] w5 W->Calls prog 13 #[.slice ao L cap,.int .i64 (jn:Int)] W fun e w'=>e=.returned (.int .i64 (rdS (txs ts) jn:Int))/\Fr [] W w'):=fun W hf=>zacr W (HT.out W (HF5.out.1.then hf)) HLn.out.1 HLn.out.2.1 hok (by omega);have HIm:Hid (1<=im/\im<jn):=⟨by omega,by omega⟩;have Hl:Hid (1<=l/\l<=16/\2<=l):=by
  refine⟨hmay.1.1,hmay.1.2,?_⟩;rcases hcp with⟨_,h⟩|⟨_,_,h⟩|⟨_,_,_,h⟩|⟨_,_,_,_,h⟩|⟨_,b,_⟩<;>first|exact absurd h (by decide)|exact b.2.2.2.2
 have HMost:Hid (xs.length<=rdS (txs ts) jn):=hmost;obtain⟨N,HN⟩:∃N,Hid (rdS (txs ts) jn=N):=⟨_,rfl⟩;rw[HN.out]at HMs HMost hsh
 obtain⟨g0,g1,g2,g3⟩:=HBc.out w5 HF5.out.2.1;clear HP hmay hok hown hFw hJ hnew hown5 HA hcp hi1 hij hjL hmost HN;unfold cfV at HOp;go_wp2_with fail
 refine Calls.mono HOp.out ?_;rintro e w6⟨p,Z,w0,rfl,hf0,hR,hz⟩;have HS:Hid (SS w5 p ⟨l,s,x,q⟩ (txs ts) (fun _ _ _=>True) L (ApE im jn) xs 0 (fun _=>True) w6):=SS.first hf0 hR hz HWf.out HFw.out.1 HFw.out.2 trivial;have HM6:Hid (Calls ..):=HMs.out w6 HS.out.fr;have hle:¬(N:Int)<(xs.length:Int):=by have:=HMost.out;omega
 clear hf0 hR hz HOp HWf HFw g0 g1 g2 g3 HMs HMost;go_wp2_with fail
 refine Calls.mono HM6.out ?_;rintro e w7⟨rfl,hf7⟩;have HS7:Hid (SS w5 p ⟨l,s,x,q⟩ (txs ts) (fun _ _ _=>True) L (ApE im jn) xs 0 (fun _=>True) w7):=HS.out.quiet hf7;clear hf7 HM6 HS;go_wp2_with fail
 have hdN:decide (N<xs.length)=false:=by simpa using hle
 simp only[hdN];go_loopw [13] (fun kk wr=>∃k:Nat,kk=.int .i64 (k:Int)/\k<=xs.length/\Hid (SS w5 p ⟨l,s,x,q⟩ (txs ts) (fun _ _ _=>True) L (ApE im jn) xs k (fun _=>True) wr)) (fun kk _=>xs.length-(RowKit.intOf kk).toNat)
 case atStart=>exact⟨0,rfl,Nat.zero_le _,HS7⟩
 obtain⟨k,rfl,hk,HSk⟩:=hrel;clear HS7;by_cases hkl:k<xs.length
 .obtain⟨g,rfl,_,hcl⟩:=HRow.out k hkl;have hcell:=hcl wr HSk.out.fr;have HSt:Hid (Calls ..):=HSk.out.step hkl (by omega);obtain⟨y,hy⟩:∃y,xs.getD k 0=y:=⟨_,rfl⟩;rw[hy]at hcell HSt
  clear HSk hy hcl;go_wp2_with fail
  refine Calls.mono HSt.out ?_;rintro e w8⟨t0,kk,n,sh,ct,m,rfl,hs8⟩;have HS8:Hid (SS w5 p ⟨l,s,x,q⟩ (txs ts) (fun _ _ _=>True) L (ApE im jn) xs (k+1) (fun _=>True) w8):=hs8.weak fun _ _=>trivial;clear hs8 HSt hcell;unfold evV;obtain⟨w9,HW9⟩:∃w9,Hid (w8.alloc (.cells #[.int .i64 t0,.int .u8 kk,.int .i64 n,.int .i64 sh,.int .i64 ct,.int .i64 m] 40)=w9):=⟨_,rfl⟩;obtain⟨E,HE⟩:∃E,Hid (w8.heap.size=E):=⟨_,rfl⟩;have HS9:Hid (SS w5 p ⟨l,s,x,q⟩ (txs ts) (fun _ _ _=>True) L (ApE im jn) xs (k+1) (fun _=>True) w9):=HS8.out.quiet (by rw[<-HW9.out];exact Fr.alloc _ _ _);clear HS8;go_upto_region 18 with fail
  rw[HW9.out,HE.out];clear HW9 HE;go_wp2_with fail
  go_roundw;case rel=>exact⟨k+1,by simp,by omega,HS9⟩
  case measure=>first|omega|(simp[RowKit.intOf];omega)
 have hkx:k=xs.length:=by omega
 subst hkx;have HC:Hid (SS w5 p ⟨l,s,x,q⟩ (txs ts) (fun _ _ _=>True) L (ApE im jn) xs xs.length (fun s=>True/\ApE im jn s/\0<=s.ma) wr):=HSk.out.close;have HHd:Hid (Calls ..):=HC.out.held;obtain⟨s9,_,hJ9,hM9⟩:=HSk.out.fin;obtain⟨mm,hmm⟩:∃mm,s9.ma=mm:=⟨_,rfl⟩;have hlt:mm<(im:Int):=by rw[<-hmm];exact hJ9.2.2.1
 have HMk:Hid (∀W',Fr [] wr W'->Calls prog 17 #[.pointer (some ⟨p,0,none⟩)] W' fun e w'=>e=.returned (.int .i64 mm)/\Fr [] W' w'):=fun W' hf=>by rw[<-hmm];exact hM9 W' hf
 have HFr:Hid (Fr [] w wr):=HF5.out.1.then HSk.out.fr;clear hJ9 hM9 HSk hmm HC;go_wp2_with fail
 refine Calls.mono HHd.out ?_;rintro e wa⟨⟨s2,ho,n2,hc,⟨_,hK,_⟩,rfl,hn2,hown⟩,hfa⟩;obtain⟨⟨l1,e1⟩,⟨l2,e2⟩,_⟩:=hK;have hnl:n2=((zbb s2.ln (Cf.l ⟨l,s,x,q⟩).toNat).mergeSort fun x y=>decide (x<=y)).length:=by rw[List.length_mergeSort];exact hn2
 have hn16:n2<1000000:=by have:=zgo s2.ln (Cf.l ⟨l,s,x,q⟩).toNat;have:=Hl.out.2.1;simp only at *;omega
 have m1:(im:Int)∈(zbb s2.ln (Cf.l ⟨l,s,x,q⟩).toNat).mergeSort fun x y=>decide (x<=y):=List.mem_mergeSort.2 (zaks (h:=⟨(im:Int),l1,0⟩) e1 (by have:=HIm.out.1;simp only;omega) _ (by have:=Hl.out;simp only;omega));have m2:(jn:Int)∈(zbb s2.ln (Cf.l ⟨l,s,x,q⟩).toNat).mergeSort fun x y=>decide (x<=y):=List.mem_mergeSort.2 (zaks (h:=⟨(jn:Int),l2,0⟩) e2 (by have:=HIm.out;simp only;omega) _ (by have:=Hl.out;simp only;omega));have HI1:Hid (Calls ..):=zaku hown hnl hn16 m1;have HI2:Hid (∀W,Fr [] wa W->_):=fun W hf=>zaku (zao hown hf (fun _ _=>by simp)) hnl hn16 m2;have HFa:Hid (Fr [] w wa/\Fr [] wr wa):=⟨HFr.out.then hfa,hfa⟩;clear hfa hown hn2 hnl hn16 m1 m2 e1 e2 HHd;go_wp2_with fail
 refine Calls.mono HI1.out ?_;rintro e wb⟨rfl,hfb⟩;have HI2b:Hid (Calls ..):=HI2.out wb hfb;have HFb:Hid (Fr [] w wb/\Fr [] wr wb):=⟨HFa.out.1.then hfb,HFa.out.2.then hfb⟩;clear hfb HI1 HI2 HFa;go_wp2_with fail
 refine Calls.mono HI2b.out ?_;rintro e wc⟨rfl,hfc⟩;have HFc:Hid (Fr [] w wc/\Fr [] wr wc):=⟨HFb.out.1.then hfc,HFb.out.2.then hfc⟩;have HMc:Hid (Calls ..):=HMk.out wc HFc.out.2;clear hfc HI2b HFb HMk;go_wp2_with fail
 refine Calls.mono HMc.out ?_;rintro e wd⟨rfl,hfd⟩;have HLd:Hid (Calls ..):=HLv.out wd;have HFd:Hid (Fr [] w wd):=HFc.out.1.then hfd;clear hfd HMc HFc;go_wp2_with fail
 refine Calls.mono HLd.out ?_;rintro e we⟨rfl,hfe⟩;have HFe:Hid (Fr [] w we):=HFd.out.then hfe;clear hfe HLd HFd;go_wp2_with fail
 go_ret;exact⟨rfl,HFe.out⟩
end
def alf:ByteArray:=⟨#[97,98,99,100,101,102,103,104,105,106,107,108,109]⟩
def kyE(i:Nat):ByteArray:=alf.extract i (i+1)
theorem zalh{i:Nat}(h:i<=12):(kyE i).size=1:=by
 have:∀i,i<13->(kyE i).size=1:=by decide
 exact this i (by omega)
theorem zali{i j:Nat}(hi:i<=12)(hj:j<=12)(h:kyE i=kyE j):i=j:=by
 have:∀i,i<13->∀j,j<13->(kyE i).data.toList=(kyE j).data.toList->i=j:=by decide
 exact this i (by omega) j (by omega) (by rw[h])
def wrE(i:Nat):List Wt:=[⟨kyE i,⟨#[118]⟩,false⟩]
def txE(i:Nat):Tx:=⟨(i:Int),wrE i⟩
def logE(n:Nat):List Tx:=(List.range' 1 n).map txE
theorem zale(n:Nat):logE (n+1)=logE n++[txE (n+1)]:=by
 unfold logE;rw[List.range'_1_concat,List.map_append,Nat.add_comm 1 n];rfl
theorem zaky{n m:Nat}(h1:1<=m)(h2:m<=n):(logE n).getD (m-1) Tx.zero=txE m:=by
 have:1+(m-1)=m:=by omega
 simp[logE,List.getD,show m-1<n by omega,this]
theorem zalc{n i j:Nat}(h:n<=12)(h1:1<=i)(hij:i<j)(hj:j<=n):¬Ch.Rch (logE n) i j:=fun hr=>by
 obtain⟨m,g1,g2,k,g3,g4⟩:=hr.inv hij;have:=g1.ge;obtain⟨x,hx,e1⟩:=g3;obtain⟨y,hy,e2⟩:=g4;rw[zaky (by omega) (by omega)]at hx
 rw[zaky (by omega) (by omega)]at hy
 have hx:x∈wrE m:=hx;have hy:y∈wrE j:=hy;rw[List.mem_singleton.1 hx]at e1
 rw[List.mem_singleton.1 hy]at e2
 have:=zali (i:=m) (j:=j) (by omega) (by omega) (e1.trans e2.symm);omega
def WrE(w:World)(t:Tm)(m:Nat):Prop:=m<=12/\∃b,t=⟨(m:Int),some ⟨b,0,none⟩,1,1,wrE m⟩/\w.heap[b]? = some (.cells #[.string (kyE m),.string ⟨#[118]⟩,.bool false] 51 (0,0))
section
variable{w w':World}{t:Tm}{m:Nat}
theorem WrE.at(h:WrE w t m):t.at w:=by
 obtain⟨hm,b,rfl,hb⟩:=h;have hk:=zalh hm;exact⟨WRs.of_row (rest:=[]) (by simpa[wrE,wtsC,wtC]using hb) (by simp[wrE]) (fun x hx=>by
  have hx:x∈wrE m:=hx;rw[List.mem_singleton.1 hx];exact⟨by simp only;omega,by show 1<=140737488355328;omega⟩),rfl,by simp only;omega,by simp only;omega⟩
theorem WrE.keep{B:List Nat}(h:WrE w t m)(hf:Fr B w w')(hB:∀b∈B,∃cs,w.heap[b]? = some (.cells cs 54 (0,0))):WrE w' t m:=by
 obtain⟨hm,b,e,hb⟩:=h;refine⟨hm,b,e,hf.keep hb (fun hm=> ?_)⟩;obtain⟨cs,hc⟩:=hB b hm;rw[hb]at hc
 cases hc
def LoT(w0 w:World)(ao:Option Addr)(n cap:Nat)(ts:List Tm):Prop:=ts.length=n/\txs ts=logE n/\w.ownsRow 0 54 2 (.slice ao n cap) n (tmsC ts)/\(∀k t,ts[k]? = some t->WrE w t (k+1))/\(∀b,(Value.slice ao n cap).ownBlock=some b->w0.heap.size<=b)/\Fr [] w0 w
def LoE(w0 w:World)(ao:Option Addr)(n cap:Nat):Prop:=∃ts,LoT w0 w ao n cap ts
theorem LoE.zero(w:World):LoE w w none 0 0:=⟨[],rfl,rfl,World.ownsRow_nil _ _ _ _,fun k t h=>by simp at h,fun b hb=>by simp[Value.ownBlock]at hb,Fr.refl _ _⟩
theorem LoE.log{w0:World}{ao:Option Addr}{n cap:Nat}(h:LoE w0 w ao n cap)(hn:n<=12):∃ts:List Tm,TRs w ao ts/\n=ts.length/\txs ts=logE n/\Few ts/\n<=cap:=by
 obtain⟨ts,h1,h2,h3,h4,h5,h6⟩:=h;have hat:∀t∈ts,t.at w/\t.L<2 ^ 21:=fun t ht=>by
  obtain⟨k,hk⟩:=List.mem_iff_getElem?.1 ht;refine⟨(h4 k t hk).at,?_⟩;obtain⟨_,b,e,_⟩:=h4 k t hk;rw[e];show 1<2 ^ 21;omega
 rcases h3.2 with⟨e,h0⟩|⟨g,cap',cur,hv,hb,hg,hnc,_,_,ht⟩
 .have:ts=[]:=List.eq_nil_of_length_eq_zero (by omega);subst this;exact⟨[],TRs.nil _ _,h1.symm,h2,fun t ht=>by simp at ht,by omega⟩
 cases hv;refine⟨ts,TRs.of_row (rest:=cur.toList.drop (n*2)) (t:=54) (f:=(0,0)) ?_ (by omega) (fun t ht=>(hat t ht).1),h1.symm,h2,fun t ht=>(hat t ht).2,hnc⟩;rw[<-ht,List.take_append_drop];simpa using hg
theorem LoT.snoc{w0 wr w4 w5:World}{ao:Option Addr}{n cap b g cap':Nat}{ts:List Tm}(h:LoT w0 wr ao n cap ts)(hk:n+1<=12)(hf:Fr [] wr w4)(hb:w4.heap[b]? = some (.cells #[.string (kyE (n+1)),.string ⟨#[118]⟩,.bool false] 51 (0,0)))(ho:w5.ownsRow 0 54 2 (.slice (some ⟨g,0,none⟩) (n+1) cap') (n+1) (tmsC ts++[.int .i64 ((n+1:Nat):Int),.slice (some ⟨b,0,none⟩) 1 1]))(hW:Ap.Went w4 (.slice ao n cap) g w5):LoE w0 w5 (some ⟨g,0,none⟩) (n+1) cap':=by
 obtain⟨h1,h2,h3,h4,h5,h6⟩:=h;have hB:∀y∈(Value.slice ao n cap).ownBlock.toList,∃cs,w4.heap[y]? = some (.cells cs 54 (0,0)):=fun y hy=>by
  have h3':=zao h3 hf (fun _ _=>by simp);rcases h3'.2 with⟨e,h0⟩|⟨g',cap'',cur,hv,hb',hg,hnc,_,_,ht⟩
  .rw[e]at hy;simp[Value.ownBlock]at hy
  rw[hv]at hy
  simp[Value.ownBlock]at hy
  subst hy;exact⟨cur,hg⟩
 refine⟨ts++[⟨((n+1:Nat):Int),some ⟨b,0,none⟩,1,1,wrE (n+1)⟩],by simp[h1],?_,?_,fun k t hk'=> ?_,fun y hy=> ?_,(h6.then hf).on hW.fr (fun y hy=>h5 y (Option.mem_toList.1 hy))⟩
 .rw[zale,<-h2];simp[txs,txE,Tm.tx]
 .rw[zen];simpa[tmsC,tmC]using ho
 .by_cases e:k<ts.length
  .rw[List.getElem?_append_left e]at hk'
   exact ((h4 k t hk').keep hf (fun b hb=>by simp at hb)).keep hW.fr hB
  rw[List.getElem?_append_right (by omega)]at hk'
  obtain⟨e1,e2⟩:=List.getElem?_eq_some_iff.1 hk';have e3:k=n:=by simp at e1;omega
  subst e3;have e4:t=⟨((k+1:Nat):Int),some ⟨b,0,none⟩,1,1,wrE (k+1)⟩:=by simp[h1]at hk';exact hk'.symm
  have h7:WrE w4 t (k+1):=⟨hk,b,e4,hb⟩;exact h7.keep hW.fr hB
 have e:g=y:=by simpa[Value.ownBlock]using hy
 rw[<-e];rcases hW with⟨e,_⟩|⟨e,_⟩
 .exact h5 g e
 exact Nat.le_trans (h6.then hf).size e
end
theorem zaln:(prog.info? 54).map (fun i=>(i.zero,i.size,i.bytes))=some (some (.agg #[.int .i64 0,.slice none 0 0]),2,32):=by kernel_rfl
theorem zakz:∃i,prog.info? 54=some i/\i.zero=some (.agg #[.int .i64 0,.slice none 0 0])/\i.size=2/\i.bytes=32:=by
 have h:=zaln;cases hi:prog.info? 54 with
 |none=>rw[hi]at h;cases h
 |some i=>
  rw[hi]at h
  simp only[Option.map_some,Option.some.injEq,Prod.mk.injEq]at h;exact⟨i,rfl,h.1,h.2.1,h.2.2⟩
section
variable{l s x q:Int}
theorem zakx(w:World)(N:Nat)(hN:N<256)(hLv:∀W,Calls prog 11 #[] W fun e w'=>e=.returned (.bool true)/\Fr [] W w') :
  Calls prog 5 #[cfV ⟨l,s,x,q⟩,.int .u8 (N:Int)] w fun e w'=>e=.returned (.bool true)/\Fr [] w w':=by
 obtain⟨w1,HW1⟩:∃w1,Hid (w.alloc (.cells #[.int .i64 l,.int .i64 s,.int .i64 x,.int .i64 q] 23)=w1):=⟨_,rfl⟩;obtain⟨A,HA⟩:∃A,Hid (w.heap.size=A):=⟨_,rfl⟩;have HB:Hid (CfB w w1 A l s x q):=by rw[<-HW1.out,<-HA.out];exact CfB.made w l s x q
 have HBc:Hid (∀W,Fr [] w1 W->_):=fun W hf=>HB.out.cells hf;have HLv:Hid (∀W,Calls prog 11 #[] W fun e w'=>e=.returned (.bool true)/\Fr [] W w'):=hLv;obtain⟨M,HM⟩:∃M,Hid (N%13=M):=⟨_,rfl⟩;have hM:M<=12:=by rw[<-HM.out];omega
 obtain⟨iI,hiI,hzI,hsI,hbI⟩:=zakz;clear hLv;unfold cfV;go_enter func5,ntmps5;go_upto_region 1 with fail
 rw[HW1.out,HA.out];clear HW1 HA;go_wp2_with fail
 go_loopw [5,6] (fun ll ii wr=>∃(k:Nat)(ao:Option Addr)(cap:Nat),ll=.slice ao k cap/\ii=.int .i64 ((k+1:Nat):Int)/\k<=M/\Hid (LoE w1 wr ao k cap)) (fun _ ii _=>M+1-(RowKit.intOf ii).toNat)
 case atStart=>exact⟨0,none,0,rfl,rfl,Nat.zero_le _,LoE.zero w1⟩
 obtain⟨k,ao,cap,rfl,rfl,hk,HL⟩:=hrel;by_cases hkM:k<M
 .have hc:(k:Int)+1<=(N:Int)%13:=by have:=HM.out;omega
  obtain⟨ts,hL⟩:=HL.out;have HLT:Hid (LoT w1 wr ao k cap ts):=hL;clear hL HL;obtain⟨v4,HV4⟩:∃v4,Hid (wr.alloc (.cells #[.string (({data:=#[97,98,99,100,101,102,103,104,105,106,107,108,109]}:ByteArray).extract (k+1) (k+1+1)),.string ⟨#[118]⟩,.bool false] 51)=v4):=⟨_,rfl⟩;obtain⟨Y,HY⟩:∃Y,Hid (wr.heap.size=Y):=⟨_,rfl⟩;obtain⟨w4,HW4⟩:∃w4,Hid (v4.alloc (.cells #[.int .i64 ((k:Int)+1),.slice (some ⟨Y,0,none⟩) 1 1] 54)=w4):=⟨_,rfl⟩;have hf4:Fr [] wr w4:=by rw[<-HW4.out,<-HV4.out];exact (Fr.alloc [] wr _).then (Fr.alloc [] _ _)
  have e4:v4.heap.size=Y+1:=by rw[<-HV4.out,<-HY.out];simp
  have hb4:w4.heap[Y]? = some (.cells #[.string (kyE (k+1)),.string ⟨#[118]⟩,.bool false] 51 (0,0)):=by
   rw[<-HW4.out];refine (Below.heap_alloc _ _ _ (by rw[e4];omega)).trans ?_;rw[<-HV4.out,<-HY.out];exact heap_alloc_new _ _
  have hc4:w4.heap[Y+1]? = some (.cells #[.int .i64 ((k:Int)+1),.slice (some ⟨Y,0,none⟩) 1 1] 54 (0,0)):=by rw[<-HW4.out,<-e4];exact heap_alloc_new _ _
  have HO4:Hid (w4.ownsRow 0 54 2 (.slice ao k cap) k (tmsC ts)):=zao HLT.out.2.2.1 hf4 (fun _ _=>by simp);have HCy:Hid (∀j u,([.int .i64 ((k:Int)+1),.slice (some ⟨Y,0,none⟩) 1 1]:List Value)[j]? = some u->w4.cell? ((⟨Y+1,0,none⟩:Addr).add j)=some u):=fun j u hu=>by
   rw[Addr.add_lit,Nat.zero_add,crw hc4,<-hu];simp
  have HS4:Hid (∀g cap' w5,w5.ownsRow 0 54 2 (.slice (some ⟨g,0,none⟩) (k+1) cap') (k+1) (tmsC ts++[.int .i64 ((k:Int)+1),.slice (some ⟨Y,0,none⟩) 1 1])->Ap.Went w4 (.slice ao k cap) g w5->LoE w1 w5 (some ⟨g,0,none⟩) (k+1) cap'):=fun g cap' w5 hO hW=>HLT.out.snoc (by omega) hf4 hb4 (by simpa using hO) hW;clear hf4 e4 hb4 hc4 HLT;go_wp2_with (first
   |(at_builtin;rw[HV4.out,HY.out,HW4.out];clear HV4 HY HW4;refine Ap.wpList_app _ rfl (.tmp 18) (.tmp 27) 24 rfl 54 iI (.agg #[.int .i64 0,.slice none 0 0]) 2 32 zrp hiI hzI hsI hbI rfl (by decide) (.slice ao k cap) k (tmsC ts) (by rfl) HO4.out ⟨Y+1,0,none⟩ 1 [.int .i64 ((k:Int)+1),.slice (some ⟨Y,0,none⟩) 1 1] (by rfl) rfl HCy.out (by simp[Value.oneCell']) (by omega) (by unfold maxLen;omega) ?_;intro g cap' w5 hO hW;have HN5:Hid (LoE w1 w5 (some ⟨g,0,none⟩) (k+1) cap'):=HS4.out g cap' w5 hO hW;clear hO hW HS4)
   |fail)
  go_roundw;case rel=>exact⟨k+1,some ⟨g,0,none⟩,cap',rfl,by simp,by omega,HN5⟩
  case measure=>first|omega|(simp[RowKit.intOf];omega)
 have hc:¬(k:Int)+1<=(N:Int)%13:=by have:=HM.out;omega
 obtain rfl:k=M:=by omega
 obtain⟨ts,hT,hlen,htx,hfew,hcap⟩:=HL.out.log hM;have HF2:Hid (Fr [] w wr/\Fr [] w1 wr):=by
  obtain⟨ts',h⟩:=HL.out;exact⟨HB.out.fr.then h.2.2.2.2.2,h.2.2.2.2.2⟩
 have HT:Hid (∀W,Fr [] wr W->TRs W ao ts):=fun W hf=>hT.keep hf;have HLn:Hid (k=ts.length/\k<=cap/\Few ts/\txs ts=logE k/\k<=12):=⟨hlen,hcap,hfew,htx,hM⟩;obtain⟨w2,hw2⟩:∃w2,w2=wr:=⟨_,rfl⟩;rw[<-hw2]at HF2 HT ⊢
 clear hw2 hT hlen htx hfew HL HM;go_wp2_with fail
 go_loopw [7] (fun ii wr=>∃i:Nat,ii=.int .i64 (i:Int)/\1<=i/\i<=k+1/\Hid (Fr [] w2 wr)) (fun ii _=>k+1-(RowKit.intOf ii).toNat)
 case atStart=>exact⟨1,rfl,by omega,by omega,Fr.refl _ _⟩
 obtain⟨i,rfl,hi1,hik,HF⟩:=hrel;by_cases hi:i<=k
 .go_wp2_with fail
  go_loopw [8] (fun jj wr=>∃j:Nat,jj=.int .i64 (j:Int)/\i+1<=j/\j<=k+1/\Hid (Fr [] w2 wr)) (fun jj _=>k+1-(RowKit.intOf jj).toNat)
  case atStart=>exact⟨i+1,by simp,by omega,by omega,HF⟩
  obtain⟨j,rfl,hj1,hjk,HG⟩:=hrel;clear HF;by_cases hj:j<=k
  .obtain⟨g0,g1,g2,g3⟩:=HBc.out wr (HF2.out.2.then HG.out);have HPl:Hid (Calls ..):=zmf (l:=l) (s:=s) (x:=x) (q:=q) (i:=(i:Int)) (j:=(j:Int)) (L:=k) (cap:=cap) wr (HT.out wr HG.out) HLn.out.1 HLn.out.2.1 ⟨by omega,by omega⟩ ⟨by omega,by omega⟩;unfold cfV at HPl;go_wp2_with fail
   refine Calls.mono HPl.out ?_;rintro e w3⟨hf3,v,r,rfl,hA,hnil,hpl⟩;have HF3:Hid (Fr [] w2 w3):=HG.out.then hf3;have HA:Hid (AAns ⟨l,s,x,q⟩ (txs ts) k i j r):=hA;have HRf:Hid (Calls ..):=zakt (l:=l) (s:=s) (x:=x) (q:=q) (i:=(i:Int)) (j:=(j:Int)) (cap:=cap) w3 (HT.out w3 HF3.out) HLn.out.1 HLn.out.2.1 ⟨by omega,by omega⟩ ⟨by omega,by omega⟩;clear g0 g1 g2 g3 HPl hf3 hA hnil hpl HG;obtain⟨g0,g1,g2,g3⟩:=HBc.out w3 (HF2.out.2.then HF3.out);have h15:¬r=15:=fun e=>by
    subst e;have hno:=zalc (n:=k) (i:=i) (j:=j) HLn.out.2.2.2.2 hi1 (by omega) hj;rw[<-HLn.out.2.2.2.1]at hno
    rcases HA.out with⟨_,h⟩|⟨_,_,h⟩|⟨_,_,h⟩
    .rcases h with⟨_,h⟩|⟨_,_,h⟩|⟨_,_,_,h⟩|⟨_,_,_,h,_⟩|⟨_,_,_,_,h⟩
     .exact absurd h (by decide)
     .exact absurd h (by decide)
     .exact absurd h (by decide)
     .simp only[Int.toNat_natCast]at h;exact hno h
     exact absurd h (by decide)
    .exact absurd h (by decide)
    exact absurd h (by decide)
   unfold cfV at HRf;go_wp2_with fail
   refine Calls.mono HRf.out ?_;rintro e w4⟨⟨r',rfl,hr'⟩,hf4⟩;obtain rfl:r'=r:=hr'.uniq HA.out;have HF4:Hid (Fr [] w2 w4):=HF3.out.then hf4;clear hr' hf4 HRf HA g0 g1 g2 g3 HF3;by_cases h0:r'=0
   .obtain⟨g0,g1,g2,g3⟩:=HBc.out w4 (HF2.out.2.then HF4.out);have HPA:Hid (Calls ..):=zakw (l:=l) (s:=s) (x:=x) (q:=q) (i:=(i:Int)) (j:=(j:Int)) (cap:=cap) w4 (HT.out w4 HF4.out) HLn.out.1 HLn.out.2.1 (by have:=HLn.out.2.2.2.2;omega) HLn.out.2.2.1 ⟨by omega,by omega⟩ ⟨by omega,by omega⟩ HLv.out;unfold cfV at HPA;subst h0;go_wp2_with fail
    refine Calls.mono HPA.out ?_;rintro e w5⟨rfl,hf5⟩;have HF5:Hid (Fr [] w2 w5):=HF4.out.then hf5;clear hf5 HPA HF4 g0 g1 g2 g3;go_wp2_with fail
    go_roundw;case rel=>exact⟨j+1,by simp,by omega,by omega,HF5⟩
    case measure=>first|omega|(simp[RowKit.intOf];omega)
   go_wp2_with fail
   go_roundw;case rel=>exact⟨j+1,by simp,by omega,by omega,HF4⟩
   case measure=>first|omega|(simp[RowKit.intOf];omega)
  go_wp2_with fail
  go_roundw;case rel=>exact⟨i+1,by simp,by omega,by omega,HG⟩
  case measure=>first|omega|(simp[RowKit.intOf];omega)
 have HLf:Hid (Calls ..):=HLv.out wr;have HFw:Hid (Fr [] w wr):=HF2.out.1.then HF.out;clear HF HF2 HLv;go_wp2_with fail
 refine Calls.mono HLf.out ?_;rintro e w6⟨rfl,hf6⟩;have HF6:Hid (Fr [] w w6):=HFw.out.then hf6;clear hf6 HLf HFw;go_wp2_with fail
 go_ret;exact⟨rfl,HF6.out⟩
end
def wA:List Wt:=[⟨⟨#[97]⟩,⟨#[49]⟩,false⟩]
def wB:List Wt:=[⟨⟨#[98]⟩,⟨#[50]⟩,false⟩]
def T2:List Tx:=[⟨1,wA⟩,⟨2,wB⟩]
def c2:Cf:=⟨2,1,4,1⟩
theorem zmg:okL 1 T2:=by
 have h:∀(n:Int)(k v:ByteArray),1<=n->n<=65536->k.size=1->v.size=1->okT n [⟨k,v,false⟩]:=fun n k v h1 h2 h3 h4=>⟨h1,h2,by simp,fun x hx=>by
  rw[List.mem_singleton.1 hx];exact⟨by simp only;omega,by simp only;omega,by simp only;omega,fun h=>by cases h⟩⟩
 exact⟨h 1 ⟨#[97]⟩ ⟨#[49]⟩ (by omega) (by omega) rfl rfl,rfl,h 2 ⟨#[98]⟩ ⟨#[50]⟩ (by omega) (by omega) rfl rfl,rfl,trivial⟩
theorem zhg:c2.may:=by decide
theorem zadg:¬Ch.Rch T2 1 2:=fun h=>by
 obtain⟨m,h1,h2,k,h3,h4⟩:=h.inv (by omega);have:=h1.ge;obtain rfl:m=1:=by omega
 obtain⟨x,hx,e1⟩:=h3;obtain⟨y,hy,e2⟩:=h4;have hx:x∈wA:=hx;have hy:y∈wB:=hy;rw[List.mem_singleton.1 hx]at e1
 rw[List.mem_singleton.1 hy]at e2
 rw[<-e2]at e1
 exact absurd e1 (by decide)
def TwoV(v:Value)(w:World):Prop:=∃b ts,v=.slice (some ⟨b,0,none⟩) 2 2/\TRs w (some ⟨b,0,none⟩) ts/\txs ts=T2
theorem TwoV.keep{v:Value}{w w':World}(hf:Fr [] w w')(h:TwoV v w):TwoV v w':=by
 obtain⟨b,ts,h1,h2,h3⟩:=h;exact⟨b,ts,h1,h2.keep hf,h3⟩
theorem zmx(w:World):Calls prog 39 #[] w fun e w'=>(∃v,e=.returned v/\TwoV v w')/\Fr [] w w':=by
 obtain⟨w3,HW3⟩:∃w3,Hid (((w.alloc (.cells #[.string ⟨#[97]⟩,.string ⟨#[49]⟩,.bool false] 51)).alloc (.cells #[.string ⟨#[98]⟩,.string ⟨#[50]⟩,.bool false] 51)).alloc (.cells #[.int .i64 1,.slice (some ⟨w.heap.size,0,none⟩) 1 1,.int .i64 2,.slice (some ⟨w.heap.size+1,0,none⟩) 1 1] 54)=w3):=⟨_,rfl⟩;have HF:Hid (Fr [] w w3):=by rw[<-HW3.out];exact ((Fr.alloc [] w _).then (Fr.alloc [] _ _)).then (Fr.alloc [] _ _)
 have hA:w3.heap[w.heap.size]? = some (.cells #[.string ⟨#[97]⟩,.string ⟨#[49]⟩,.bool false] 51 (0,0)):=by
  rw[<-HW3.out];exact (Below.heap_alloc _ _ _ (by simp;omega)).trans ((Below.heap_alloc _ _ _ (by simp)).trans (heap_alloc_new _ _))
 have hB:w3.heap[w.heap.size+1]? = some (.cells #[.string ⟨#[98]⟩,.string ⟨#[50]⟩,.bool false] 51 (0,0)):=by
  rw[<-HW3.out];refine (Below.heap_alloc _ _ _ (by simp)).trans ?_;have:=heap_alloc_new (w.alloc (.cells #[.string ⟨#[97]⟩,.string ⟨#[49]⟩,.bool false] 51)) (.cells #[.string ⟨#[98]⟩,.string ⟨#[50]⟩,.bool false] 51);simpa using this
 have hC:w3.heap[w.heap.size+2]? = some (.cells #[.int .i64 1,.slice (some ⟨w.heap.size,0,none⟩) 1 1,.int .i64 2,.slice (some ⟨w.heap.size+1,0,none⟩) 1 1] 54 (0,0)):=by
  rw[<-HW3.out];have:=heap_alloc_new ((w.alloc (.cells #[.string ⟨#[97]⟩,.string ⟨#[49]⟩,.bool false] 51)).alloc (.cells #[.string ⟨#[98]⟩,.string ⟨#[50]⟩,.bool false] 51)) (.cells #[.int .i64 1,.slice (some ⟨w.heap.size,0,none⟩) 1 1,.int .i64 2,.slice (some ⟨w.heap.size+1,0,none⟩) 1 1] 54);simpa using this
 have hs:∀(b:Nat)(k v:ByteArray),k.size=1->v.size=1->w3.heap[b]? = some (.cells #[.string k,.string v,.bool false] 51 (0,0))->WRs w3 (some ⟨b,0,none⟩) [⟨k,v,false⟩]:=fun b k v hk hv hb=>WRs.of_row (rest:=[]) (by simpa[wtsC,wtC]using hb) (by simp) (fun x hx=>by rw[List.mem_singleton.1 hx];exact⟨by simp only;omega,by simp only;omega⟩);have HT:Hid (TwoV (.slice (some ⟨w.heap.size+2,0,none⟩) 2 2) w3):=by
  refine⟨w.heap.size+2,[⟨1,some ⟨w.heap.size,0,none⟩,1,1,wA⟩,⟨2,some ⟨w.heap.size+1,0,none⟩,1,1,wB⟩],rfl,?_,rfl⟩;refine TRs.of_row (rest:=[]) (by simpa[tmsC,tmC]using hC) (by simp) (fun t ht=> ?_);simp only[List.mem_cons,List.not_mem_nil,or_false]at ht;rcases ht with rfl|rfl
  .exact⟨hs _ ⟨#[97]⟩ ⟨#[49]⟩ rfl rfl hA,rfl,by simp only;omega,by simp only;omega⟩
  exact⟨hs _ ⟨#[98]⟩ ⟨#[50]⟩ rfl rfl hB,rfl,by simp only;omega,by simp only;omega⟩
 clear hA hB hC hs;go_enter func39,ntmps39;go_wp2;go_ret;rw[HW3.out];exact⟨⟨_,rfl,HT.out⟩,HF.out⟩
theorem zkq{ρ:Operand->Value}{w:World}{o:Oper}{x:Operand}{a b:Value}(ho:o.op=.extract x 0)(hx:ρ x=.tuple #[a,b]):(execOp ρ o).run prog w=.ok (.value a) w:=by
 obtain⟨d,op,ty,ps,af,gd⟩:=o;simp only at ho;subst ho
 go_simp
theorem zkr{ρ:Operand->Value}{w:World}{o:Oper}{x:Operand}{a b:Value}(ho:o.op=.extract x 1)(hx:ρ x=.tuple #[a,b]):(execOp ρ o).run prog w=.ok (.value b) w:=by
 obtain⟨d,op,ty,ps,af,gd⟩:=o;simp only at ho;subst ho
 go_simp
theorem zrs{ρ:Operand->Value}{w:World}{o:Oper}(ho:o.op=.call {callee:=.value (.func 39),args:=#[],argTypes:=#[]})(h:ρ (.func 39)=.func (Fn.func 39) #[] #[]):(execOp ρ o).run prog w=.ok (.enter 39 #[]) w:=by
 obtain⟨d,op,ty,ps,af,gd⟩:=o;simp only at ho;subst ho
 go_simp
theorem zrt{ρ:Operand->Value}{w:World}{o:Oper}{x y z u:Operand}(ho:o.op=.call {callee:=.value (.func 8),args:=#[x,y,z,u],argTypes:=#[23,24,3,3]})(h:ρ (.func 8)=.func (Fn.func 8) #[] #[]):(execOp ρ o).run prog w=.ok (.enter 8 #[ρ x,ρ y,ρ z,ρ u]) w:=by
 obtain⟨d,op,ty,ps,af,gd⟩:=o;simp only at ho;subst ho
 go_simp
theorem zzu{ρ:Operand->Value}{w:World}{o:Oper}{x y:Operand}(ho:o.op=.call {callee:=.value (.func 12),args:=#[x,y],argTypes:=#[23,24]})(h:ρ (.func 12)=.func (Fn.func 12) #[] #[]):(execOp ρ o).run prog w=.ok (.enter 12 #[ρ x,ρ y]) w:=by
 obtain⟨d,op,ty,ps,af,gd⟩:=o;simp only at ho;subst ho
 go_simp
def P12(w0:World)(v:Value)(w:World):Prop:=PlV w0 c2 T2 (fun _ _ _=>True) {ms0 with fd:=2} (ApE 1 2) v w
def O12(w0:World)(v:Value)(w:World):Prop:=∃p Z w1,v=.pointer (some ⟨p,0,none⟩)/\Fr [] w0 w1/\RP w1 w p c2 T2 Z {ms0 with fd:=2}/\Z.nr=0
theorem O12.keep{w0 w w':World}{v:Value}(hf:Fr [] w w')(h:O12 w0 v w):O12 w0 v w':=by
 obtain⟨p,Z,w1,h1,h2,h3,h4⟩:=h;exact⟨p,Z,w1,h1,h2,h3.quiet hf,h4⟩
theorem cp12:CpP c2 T2 2 1 2 0:=Or.inr (Or.inr (Or.inr (Or.inr ⟨zhg,⟨zmg,by decide,by decide,by decide,by decide⟩,by decide,zadg,rfl⟩)))
theorem zahm{ao:Option Addr}{ts:List Tm}(w:World)(hT:TRs w ao ts)(ht:txs ts=T2):Calls prog 8 #[cfV c2,.slice ao 2 2,.int .i64 1,.int .i64 2] w fun e w'=>(∃v,e=.returned (.tuple #[v,.int .i64 0])/\P12 w v w')/\Fr [] w w':=by
 have hl:2=ts.length:=by have:=congrArg List.length ht;rw[zaf]at this;exact this.symm
 refine (zmf (l:=2) (s:=1) (x:=4) (q:=1) (L:=2) (cap:=2) (i:=1) (j:=2) w hT hl (Nat.le_refl _) ⟨by omega,by omega⟩ ⟨by omega,by omega⟩).mono ?_;rintro e w'⟨hf,v,r,rfl,hA,_,hP⟩;rw[ht]at hA hP
 have h0:AAns c2 T2 2 1 2 0:=Or.inr (Or.inr ⟨cp12,by have:=zlz zhg zmg 2 (Nat.le_refl _);show rdS T2 2<=_;omega,rfl⟩);obtain rfl:r=0:=AAns.uniq hA h0;exact⟨⟨v,rfl,hP rfl⟩,hf⟩
theorem zahn{ao:Option Addr}{ts:List Tm}(w:World)(hT:TRs w ao ts)(ht:txs ts=T2):Calls prog 8 #[cfV c2,.slice ao 2 2,.int .i64 2,.int .i64 2] w fun e w'=>(∃v,e=.returned (.tuple #[v,.int .i64 1]))/\Fr [] w w':=by
 have hl:2=ts.length:=by have:=congrArg List.length ht;rw[zaf]at this;exact this.symm
 refine (zmf (l:=2) (s:=1) (x:=4) (q:=1) (L:=2) (cap:=2) (i:=2) (j:=2) w hT hl (Nat.le_refl _) ⟨by omega,by omega⟩ ⟨by omega,by omega⟩).mono ?_;rintro e w'⟨hf,v,r,rfl,hA,_,_⟩;rw[ht]at hA
 have h0:AAns c2 T2 2 2 2 1:=Or.inl ⟨by decide,Or.inr (Or.inl ⟨zhg,fun h=>absurd h.2.2.1 (by decide),rfl⟩)⟩;obtain rfl:r=1:=AAns.uniq hA h0;exact⟨⟨v,rfl⟩,hf⟩
def lPhA(w0:World):Nat->Value->World->Prop
 |0,v,w=>v=cfV c2
 |1,v,w=>TwoV v w
 |2,v,w=>∃p,v=.tuple #[p,.int .i64 0]/\P12 w0 p w
 |3,v,w=>∃p,v=.tuple #[p,.int .i64 0]/\P12 w0 p w
 |4,v,w=>P12 w0 v w
 |5,v,w=>v=.int .i64 0
 |6,v,w=>P12 w0 v w
 |7,v,w=>v=.int .i64 0
 |_,_,_=>True
theorem zzv{w0:World}:∀i v w w',Fr [] w w'->lPhA w0 i v w->lPhA w0 i v w'
 |0,v,w,w',hf,h=>h
 |1,v,w,w',hf,h=>TwoV.keep hf h
 |2,v,w,w',hf,⟨p,h1,h2⟩=>⟨p,h1,PlV.keep hf h2⟩
 |3,v,w,w',hf,⟨p,h1,h2⟩=>⟨p,h1,PlV.keep hf h2⟩
 |4,v,w,w',hf,h=>PlV.keep hf h
 |5,v,w,w',hf,h=>h
 |6,v,w,w',hf,h=>PlV.keep hf h
 |7,v,w,w',hf,h=>h
 |n+8,v,w,w',hf,h=>trivial
def lPhB:Nat->Value->World->Prop
 |0,v,w=>v=cfV c2
 |1,v,w=>TwoV v w
 |2,v,w=>∃p,v=.tuple #[p,.int .i64 1]
 |3,v,w=>∃p,v=.tuple #[p,.int .i64 1]
 |5,v,w=>v=.int .i64 1
 |7,v,w=>v=.int .i64 1
 |_,_,_=>True
theorem zzw:∀i v w w',Fr [] w w'->lPhB i v w->lPhB i v w'
 |0,v,w,w',hf,h=>h
 |1,v,w,w',hf,h=>TwoV.keep hf h
 |2,v,w,w',hf,h=>h
 |3,v,w,w',hf,h=>h
 |4,v,w,w',hf,h=>trivial
 |5,v,w,w',hf,h=>h
 |6,v,w,w',hf,h=>trivial
 |7,v,w,w',hf,h=>h
 |n+8,v,w,w',hf,h=>trivial
def lPhC(w0:World):Nat->Value->World->Prop
 |0,v,w=>v=cfV c2
 |1,v,w=>TwoV v w
 |2,v,w=>O12 w0 v w
 |3,v,w=>O12 w0 v w
 |_,_,_=>True
theorem zzx{w0:World}:∀i v w w',Fr [] w w'->lPhC w0 i v w->lPhC w0 i v w'
 |0,v,w,w',hf,h=>h
 |1,v,w,w',hf,h=>TwoV.keep hf h
 |2,v,w,w',hf,h=>O12.keep hf h
 |3,v,w,w',hf,h=>O12.keep hf h
 |n+4,v,w,w',hf,h=>trivial
theorem zajt:([1,2]:List Int).mergeSort (fun x y=>decide (x<=y))=[1,2]:=List.mergeSort_of_pairwise (by decide)
theorem zsw(w:World):Calls prog 11 #[] w fun e w'=>e=.returned (.bool true)/\Fr [] w w':=by
 obtain⟨w1,HW1⟩:∃w1,Hid (w.alloc (.cells #[.int .i64 2,.int .i64 1,.int .i64 4,.int .i64 1] 23)=w1):=⟨_,rfl⟩;obtain⟨A,HA⟩:∃A,Hid (w.heap.size=A):=⟨_,rfl⟩;have HB:Hid (CfB w w1 A 2 1 4 1):=by rw[<-HW1.out,<-HA.out];exact CfB.made w 2 1 4 1
 have HF:Hid (Fr [] w w1/\Fr [] w1 w1):=⟨HB.out.fr,Fr.refl _ _⟩;go_enter func11,ntmps11;go_upto_region 2 with fail
 rw[HW1.out,HA.out];clear HW1 HA;refine zdf [13,14,15,12,16,17,2,3] 81 (lPhA w) (by kernel_rfl) (by kernel_rfl) (by kernel_rfl) rfl zzv ?_ ?_
 .intro i o ho a W hf hsame hdep;have h1:a.eval (.tmp 1)=.pointer (some ⟨A,0,none⟩):=(hsame 1 (by decide)).trans rfl;have hA:=(HF.out.2.then hf).keep HB.out.row (by simp)
  match i,ho with
  |0,ho=>
   obtain rfl:=Option.some.inj ho;exact zah (zdy (c:=c2) _ rfl h1 hA) ⟨_,rfl,Fr.refl _ _,rfl⟩
  |1,ho=>
   obtain rfl:=Option.some.inj ho;refine zbg (zrs rfl rfl) ?_;refine Calls.mono (zmx W) ?_;rintro e w'⟨⟨v,rfl,hT⟩,hf'⟩;exact⟨v,rfl,v,rfl,hf',hT⟩
  |2,ho=>
   have hc:a.eval (.tmp 13)=cfV c2:=hdep 0 13 (by kernel_rfl) rfl;obtain⟨b,ts,ht,hT,hx⟩:TwoV (a.eval (.tmp 14)) W:=hdep 1 14 (by kernel_rfl) rfl;obtain rfl:=Option.some.inj ho;refine zbg (zrt rfl rfl) ?_;rw[hc,ht];refine Calls.mono (zahm W hT hx) ?_;rintro e w'⟨⟨v,rfl,hP⟩,hf'⟩;obtain⟨xs,s',k1,k2,k3,k4⟩:=hP;exact⟨_,rfl,_,rfl,hf',v,rfl,xs,s',k1,k2,k3,fun b hb=>Nat.le_trans (HF.out.1.then hf).size (k4 b hb)⟩
  |3,ho=>
   have hp:=hdep 2 15 (by kernel_rfl) rfl;obtain rfl:=Option.some.inj ho;exact zah (zcg (.tmp 15) rfl) ⟨_,rfl,Fr.refl _ _,hp⟩
  |4,ho=>
   have hp:=hdep 3 12 (by kernel_rfl) rfl;obtain rfl:=Option.some.inj ho;obtain⟨p,e1,e2⟩:=hp;exact zah (zkq rfl e1) ⟨_,rfl,Fr.refl _ _,e2⟩
  |5,ho=>
   have hp:=hdep 3 12 (by kernel_rfl) rfl;obtain rfl:=Option.some.inj ho;obtain⟨p,e1,e2⟩:=hp;exact zah (zkr rfl e1) ⟨_,rfl,Fr.refl _ _,rfl⟩
  |6,ho=>
   have hp:=hdep 4 16 (by kernel_rfl) rfl;obtain rfl:=Option.some.inj ho;exact zah (zbo (.tmp 16) rfl) ⟨_,rfl,Fr.refl _ _,hp⟩
  |7,ho=>
   have hp:=hdep 5 17 (by kernel_rfl) rfl;obtain rfl:=Option.some.inj ho;exact zah (zbo (.tmp 17) rfl) ⟨_,rfl,Fr.refl _ _,hp⟩
  |n+8,ho=>exact absurd ho (by simp)
 intro vs w2 hlen hf hv;obtain⟨v0,v1,v2,v3,v4,v5,v6,v7,rfl⟩:∃v0 v1 v2 v3 v4 v5 v6 v7,vs=[v0,v1,v2,v3,v4,v5,v6,v7]:=by
  match vs,hlen with
  | [v0,v1,v2,v3,v4,v5,v6,v7],_=>exact⟨v0,v1,v2,v3,v4,v5,v6,v7,rfl⟩
 have HP:Hid (P12 w v6 w2):=hv 6 v6 rfl;obtain rfl:v7=.int .i64 0:=hv 7 v7 rfl;have HF2:Hid (Fr [] w w2/\Fr [] w1 w2):=⟨HF.out.1.then hf,HF.out.2.then hf⟩;clear hv hlen hf HF;rename_i hK;refine hK _ _ ?_;clear hK;simp only[List.zip_cons_cons,List.zip_nil_left,puts,Act.put,List.setIfInBounds_toArray,List.set_cons_succ,List.set_cons_zero];have HF:=HF2;go_upto_region 3 with fail
 refine zdf [19,20,21,18,22,23,4,5] 81 lPhB (by kernel_rfl) (by kernel_rfl) (by kernel_rfl) rfl zzw ?_ ?_
 .intro i o ho a W hf hsame hdep;have h1:a.eval (.tmp 1)=.pointer (some ⟨A,0,none⟩):=(hsame 1 (by decide)).trans rfl;have hA:=(HF.out.2.then hf).keep HB.out.row (by simp)
  match i,ho with
  |0,ho=>
   obtain rfl:=Option.some.inj ho;exact zah (zdy (c:=c2) _ rfl h1 hA) ⟨_,rfl,Fr.refl _ _,rfl⟩
  |1,ho=>
   obtain rfl:=Option.some.inj ho;refine zbg (zrs rfl rfl) ?_;refine Calls.mono (zmx W) ?_;rintro e w'⟨⟨v,rfl,hT⟩,hf'⟩;exact⟨v,rfl,v,rfl,hf',hT⟩
  |2,ho=>
   have hc:a.eval (.tmp 19)=cfV c2:=hdep 0 19 (by kernel_rfl) rfl;obtain⟨b,ts,ht,hT,hx⟩:TwoV (a.eval (.tmp 20)) W:=hdep 1 20 (by kernel_rfl) rfl;obtain rfl:=Option.some.inj ho;refine zbg (zrt rfl rfl) ?_;rw[hc,ht];refine Calls.mono (zahn W hT hx) ?_;rintro e w'⟨⟨v,rfl⟩,hf'⟩;exact⟨_,rfl,_,rfl,hf',v,rfl⟩
  |3,ho=>
   have hp:=hdep 2 21 (by kernel_rfl) rfl;obtain rfl:=Option.some.inj ho;exact zah (zcg (.tmp 21) rfl) ⟨_,rfl,Fr.refl _ _,hp⟩
  |4,ho=>
   have hp:=hdep 3 18 (by kernel_rfl) rfl;obtain rfl:=Option.some.inj ho;obtain⟨p,e1⟩:=hp;exact zah (zkq rfl e1) ⟨_,rfl,Fr.refl _ _,trivial⟩
  |5,ho=>
   have hp:=hdep 3 18 (by kernel_rfl) rfl;obtain rfl:=Option.some.inj ho;obtain⟨p,e1⟩:=hp;exact zah (zkr rfl e1) ⟨_,rfl,Fr.refl _ _,rfl⟩
  |6,ho=>
   have hp:=hdep 4 22 (by kernel_rfl) rfl;obtain rfl:=Option.some.inj ho;exact zah (zbo (.tmp 22) rfl) ⟨_,rfl,Fr.refl _ _,hp⟩
  |7,ho=>
   have hp:=hdep 5 23 (by kernel_rfl) rfl;obtain rfl:=Option.some.inj ho;exact zah (zbo (.tmp 23) rfl) ⟨_,rfl,Fr.refl _ _,hp⟩
  |n+8,ho=>exact absurd ho (by simp)
 intro us w3 hlen hf hv;obtain⟨u0,u1,u2,u3,u4,u5,u6,u7,rfl⟩:∃u0 u1 u2 u3 u4 u5 u6 u7,us=[u0,u1,u2,u3,u4,u5,u6,u7]:=by
  match us,hlen with
  | [u0,u1,u2,u3,u4,u5,u6,u7],_=>exact⟨u0,u1,u2,u3,u4,u5,u6,u7,rfl⟩
 obtain rfl:u7=.int .i64 1:=hv 7 u7 rfl;have HF3:Hid (Fr [] w w3/\Fr [] w1 w3/\Fr [] w2 w3):=⟨HF2.out.1.then hf,HF2.out.2.then hf,hf⟩;clear hv hlen hf HF HF2;rename_i hK;refine hK _ _ ?_;clear hK;simp only[List.zip_cons_cons,List.zip_nil_left,puts,Act.put,List.setIfInBounds_toArray,List.set_cons_succ,List.set_cons_zero];have HF:Hid (Fr [] w w3/\Fr [] w1 w3):=⟨HF3.out.1,HF3.out.2.1⟩;go_upto_region 4 with fail
 refine zdf [24,25,26,6] 81 (lPhC w3) (by kernel_rfl) (by kernel_rfl) (by kernel_rfl) rfl zzx ?_ ?_
 .intro i o ho a W hf hsame hdep;have h1:a.eval (.tmp 1)=.pointer (some ⟨A,0,none⟩):=(hsame 1 (by decide)).trans rfl;have hA:=(HF.out.2.then hf).keep HB.out.row (by simp)
  match i,ho with
  |0,ho=>
   obtain rfl:=Option.some.inj ho;exact zah (zdy (c:=c2) _ rfl h1 hA) ⟨_,rfl,Fr.refl _ _,rfl⟩
  |1,ho=>
   obtain rfl:=Option.some.inj ho;refine zbg (zrs rfl rfl) ?_;refine Calls.mono (zmx W) ?_;rintro e w'⟨⟨v,rfl,hT⟩,hf'⟩;exact⟨v,rfl,v,rfl,hf',hT⟩
  |2,ho=>
   have hc:a.eval (.tmp 24)=cfV c2:=hdep 0 24 (by kernel_rfl) rfl;obtain⟨b,ts,ht,hT,hx⟩:TwoV (a.eval (.tmp 25)) W:=hdep 1 25 (by kernel_rfl) rfl;obtain rfl:=Option.some.inj ho;refine zbg (zzu rfl rfl) ?_;rw[hc,ht];refine Calls.mono (zmc (l:=2) (s:=1) (x:=4) (q:=1) (L:=2) (cap:=2) W hT (by have:=congrArg List.length hx;rw[zaf]at this;exact this.symm) (by rw[hx];exact zmg) zhg) ?_;rintro e w'⟨p,Z,w0,rfl,h0,hR,hz⟩;rw[hx]at hR
   exact⟨_,rfl,_,rfl,h0.then hR.m.fr,p,Z,w0,rfl,hf.then h0,hR,hz⟩
  |3,ho=>
   have hp:=hdep 2 26 (by kernel_rfl) rfl;obtain rfl:=Option.some.inj ho;exact zah (zbo (.tmp 26) rfl) ⟨_,rfl,Fr.refl _ _,hp⟩
  |n+4,ho=>exact absurd ho (by simp)
 intro ys w4 hlen hf hv;obtain⟨y0,y1,y2,y3,rfl⟩:∃y0 y1 y2 y3,ys=[y0,y1,y2,y3]:=by
  match ys,hlen with
  | [y0,y1,y2,y3],_=>exact⟨y0,y1,y2,y3,rfl⟩
 obtain⟨p,Z,w0,rfl,h0,hR,hz⟩:O12 w3 y3 w4:=hv 3 y3 rfl;obtain⟨xs,s',hown,hFw,hJ,hnew⟩:=HP.out;have hf34:Fr [] w3 w4:=hf;have hown4:=zao hown (HF3.out.2.2.then hf34) (fun _ _=>by simp);obtain⟨vo,vc,hvv⟩:=Ap.own_slice hown4;subst hvv;have hwf:Wf c2 T2 {ms0 with fd:=2}:=Wf.first zhg zmg rfl;have HS:Hid (SS w3 p c2 T2 (fun _ _ _=>True) 2 (ApE 1 2) xs 0 (fun _=>True) w4):=SS.first h0 hR hz hwf hFw hJ trivial;have hx1:xs.length<=138:=by
  have h1:=hFw.nu.1;rw[zrf]at h1
  have h2:=zlz zhg zmg 2 (Nat.le_refl _);omega
 have hx0:0<xs.length:=by
  cases hFw with
  |nil=>obtain⟨⟨l,hl⟩,_⟩:=hJ;cases hl
  |cons=>simp
 have HRow:Hid (∀W,Fr [] w3 W->∀k,k<xs.length->∃g,vo=some ⟨g,0,none⟩/\W.cell? ⟨g,k,none⟩=some (.int .i64 (xs.getD k 0))):=fun W hf k hk=>by
  have ho:=zao hown (HF3.out.2.2.then hf) (fun _ _=>by simp);rcases ho.2 with⟨_,h0⟩|⟨g,cap',cur,hvv,hb,hg,_,_,_,ht⟩
  .omega
  cases hvv;refine⟨g,rfl,?_⟩;rw[crw hg];have h1:(cur.toList.take xs.length)[k]? = (tkC xs)[k]? :=by rw[Nat.mul_one]at ht;rw[ht]
  rw[List.getElem?_take_of_lt hk]at h1
  rw[<-Array.getElem?_toList,h1];simp[tkC,List.getD,hk]
 have hvc:xs.length<=vc:=by
  rcases hown4.2 with⟨hh,h0⟩|⟨g,cap',cur,hvv,hb,hg,hnc,_⟩
  .omega
  cases hvv;exact hnc
 have hlz:((xs.length:Int)==0)=false:=by rw[beq_eq_false_iff_ne];omega
 clear hv hlen hf HP hown hFw hJ hnew hown4 hR hz h0 hwf hf34 HF;rename_i hK;refine hK _ _ ?_;clear hK;simp only[List.zip_cons_cons,List.zip_nil_left,puts,Act.put,List.setIfInBounds_toArray,List.set_cons_succ,List.set_cons_zero];go_wp2_with fail
 go_loopw [7] (fun kk wr=>∃k:Nat,kk=.int .i64 (k:Int)/\k<=xs.length/\Hid (SS w3 p c2 T2 (fun _ _ _=>True) 2 (ApE 1 2) xs k (fun _=>True) wr)) (fun kk _=>xs.length-(RowKit.intOf kk).toNat)
 case atStart=>exact⟨0,rfl,Nat.zero_le _,HS⟩
 obtain⟨k,rfl,hk,HSk⟩:=hrel;clear HS;by_cases hkl:k<xs.length
 .obtain⟨g,rfl,hcell⟩:=HRow.out wr HSk.out.fr k hkl;have HSt:Hid (Calls ..):=HSk.out.step hkl (by omega);obtain⟨y,hy⟩:∃y,xs.getD k 0=y:=⟨_,rfl⟩;rw[hy]at hcell HSt
  clear HSk hy;go_wp2_with fail
  refine Calls.mono HSt.out ?_;rintro e w7⟨t0,kk,n,sh,ct,m,rfl,hs7⟩;have HS8:Hid (∀W,Fr [] w7 W->SS w3 p c2 T2 (fun _ _ _=>True) 2 (ApE 1 2) xs (k+1) (fun _=>True) W):=fun W hf=>(hs7.quiet hf).weak fun _ _=>trivial;clear hs7 HSt hcell;unfold evV;go_wp2_with fail
  go_roundw;case rel=>exact⟨k+1,by simp,by omega,HS8.out _ (Fr.alloc _ _ _)⟩
  case measure=>first|omega|(simp[RowKit.intOf];omega)
 have hkx:k=xs.length:=by omega
 subst hkx;have hcl:=HSk.out.close;have HHd:Hid (Calls ..):=hcl.held;have HQ:Hid (∀W,Fr [] wr W->SS w3 p c2 T2 (fun _ _ _=>True) 2 (ApE 1 2) xs xs.length (fun s=>True/\ApE 1 2 s/\0<=s.ma) W):=fun W hf=>hcl.quiet hf;have HFr:Hid (Fr [] w wr):=HF3.out.1.then HSk.out.fr;clear hcl HSk HRow;go_wp2_with fail
 refine Calls.mono HHd.out ?_;rintro e wa⟨⟨s9,ho,n9,hc9,hK9,rfl,hn9,ho9⟩,hfa⟩;obtain⟨_,⟨⟨l1,hl1⟩,⟨l2,hl2⟩,_⟩,_⟩:=hK9;have hh:zbb s9.ln c2.l.toNat=[1,2]:=by
  show zbb s9.ln 2=[1,2];simp[zbb,hl1,hl2,zco]
 rw[hh]at hn9 ho9
 rw[zajt]at ho9
 obtain rfl:n9=2:=hn9;obtain⟨g9,cap9,hv9,hc92⟩:=Ap.own_form ho9 (by omega);cases hv9;have q0:wa.cell? ⟨g9,0,none⟩=some (.int .i64 1):=ho9.cells (g:=g9) rfl 0 _ rfl;have q1:wa.cell? ⟨g9,1,none⟩=some (.int .i64 2):=ho9.cells (g:=g9) rfl 1 _ rfl;obtain⟨sm,hsm,hJm,hMm⟩:=(HQ.out wa hfa).fin;have hm0:sm.ma=0:=by
  have h1:=hsm.2.2;have h2:sm.ma<((1:Nat):Int):=hJm.2.2.1;omega
 rw[hm0]at hMm
 have HMk:Hid (Calls ..):=hMm wa (Fr.refl _ _);have HFa:Hid (Fr [] w wa):=HFr.out.then hfa;clear hl1 hl2 hh ho9 hfa HHd HQ hsm hJm hMm hm0 HFr;go_wp2_with fail
 refine Calls.mono HMk.out ?_;rintro e wb⟨rfl,hfb⟩;have HFb:Hid (Fr [] w wb):=HFa.out.then hfb;clear hfb HMk HFa;go_wp2_with fail
 go_ret;exact⟨rfl,HFb.out⟩
end
end Go.Proofs.YtaigdcmoecgabaaGreat
