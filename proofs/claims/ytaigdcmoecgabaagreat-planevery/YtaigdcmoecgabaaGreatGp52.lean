/- Contracts and lemmas. -/
import Derived.Test.YtaigdcmoecgabaaGreatGp10
import Derived.Test.YtaigdcmoecgabaaGreatGp35
set_option maxHeartbeats 8000000
set_option maxRecDepth 100000
set_option linter.unusedSimpArgs false
set_option linter.unusedVariables false
namespace Go.Proofs.YtaigdcmoecgabaaGreat
open Go.ChangeShapes Go.WideShapes Go.ChangeAt Go.RowKit Go.Lib Go.Proofs.Tryz
def sumI:List Int->Int
 | []=>0
 |x::r=>x+sumI r
theorem zkz:∀(a b:List Int),sumI (a++b)=sumI a+sumI b
 | [],b=>by simp[sumI]
 |x::r,b=>by simp[sumI,zkz r b];omega
theorem zzj(a:List Int)(x:Int):sumI (a++[x])=sumI a+x:=by rw[zkz];simp[sumI]
theorem zma{M:Nat}:∀(a:List Int),(∀x∈a,0<=x/\x<=(M:Int))->0<=sumI a/\sumI a<=(a.length*M:Nat)
 | [],_=>by simp[sumI]
 |x::r,h=>by
  obtain⟨h1,h2⟩:=zma r fun y hy=>h y (List.mem_cons_of_mem _ hy);have h3:=h x List.mem_cons_self;simp only[sumI,List.length_cons,Nat.add_mul,Nat.one_mul];omega
theorem zalf(xs:List Int)(i:Nat)(h:i<xs.length):xs.getD i 0∈xs:=by
 simp[List.getD,h]
theorem zmb(ao:Option Addr)(L cap:Nat)(xs:List Int)(w:World)(hI:IRs w ao xs)(hL:L=xs.length)(hb:∀x∈xs,0<=x/\x<=((1048576:Nat):Int))(hLb:L<=4194304) :
  Calls prog 104 #[.slice ao L cap] w fun e w'=>e=.returned (.int .i64 (sumI xs))/\Fr [] w w':=by
 have HL:Hid (L=xs.length):=hL;have HI:Hid (∀W,Fr [] w W->IRs W ao xs):=fun W hf=>hI.keep hf;have HB:Hid (∀i,i<L->(0<=xs.getD i 0/\xs.getD i 0<=1048576)/\sumI (xs.take (i+1))=sumI (xs.take i)+xs.getD i 0/\0<=sumI (xs.take i)/\sumI (xs.take i)<=4398046511104):=fun i hi=>by
  refine⟨by have:=hb _ (zalf xs i (by omega));omega,by rw[zew xs i (by omega),zzj],?_⟩;have h2:=zma (M:=1048576) (xs.take i) (fun x hx=>hb x (List.mem_of_mem_take hx));have h3:(xs.take i).length<=4194304:=by rw[List.length_take];omega
  have h4:(xs.take i).length*1048576<=4194304*1048576:=Nat.mul_le_mul_right _ h3;omega
 clear hI hb hL;go_enter func104,ntmps104;go_wp2_with fail
 go_loopw [3,8] (fun ss ii wr=>∃(i:Nat),ss=.int .i64 (sumI (xs.take i))/\ii=.int .i64 i/\i<=L/\Fr [] w wr) (fun _ ii _=>L-(RowKit.intOf ii).toNat)
 case atStart=>exact⟨0,rfl,rfl,Nat.zero_le _,Fr.refl _ _⟩
 obtain⟨i,rfl,rfl,hiL,hF⟩:=hrel;by_cases hi:i<L
 .obtain⟨bb,off,rfl,_,hc⟩:=(HI.out _ hF).lies (by rw[<-HL.out];omega);have d0:=hc i (by rw[<-HL.out];exact hi);obtain⟨⟨x0,x1⟩,HE,s0,s1⟩:=HB.out i hi;have HE':Hid (_=_):=HE;clear HE;generalize xs.getD i 0=x at d0 x0 x1 HE';generalize hS:sumI (xs.take i)=S at s0 s1 HE' ⊢;clear hc hS;go_wp2_with fail
  go_roundw;case rel=>exact⟨i+1,by rw[HE'.out],by simp,by omega,hF⟩
  case measure=>simp[RowKit.intOf];omega
 obtain rfl:i=L:=by omega
 have HE:Hid (sumI (xs.take i)=sumI xs):=by
  show _=_;rw[HL.out,List.take_length]
 rw[HE.out];clear HE hi hiL;go_wp2_with fail
 go_ret;exact⟨rfl,hF⟩
noncomputable def tnC (ws:List Wt) (sk:Bool):Nat:=if sk then 2 else 5+2*(dd ws).length
theorem zajl{ws:List Wt}(h:ws.length<=32)(sk:Bool):tnC ws sk<=69:=by
 have:=zgx ws;unfold tnC;split<;>omega
def TnP(n:Int)(ws:List Wt)(sk:Bool)(r e:Int):Prop:=(okT n ws/\r=(tnC ws sk:Int)/\e=0)\/(¬okT n ws/\r=0/\e=1)
theorem zvt(n:Int)(ao:Option Addr)(L cap:Nat)(ws:List Wt)(sk:Bool)(w:World)(hT:TArg w n ao L cap ws)(hok:okT n ws) :
  Calls prog 103 #[.agg #[.int .i64 n,.slice ao L cap],.bool sk] w fun e w'=>e=.returned (.int .i64 (tnC ws sk:Int))/\Fr [] w w':=by
 have HQ:Hid (∀W,Fr [] w W->Calls prog 146 #[.slice ao L cap] W fun e w'=>e=.returned (.int .i64 ((dd ws).length:Int))/\Fr [] W w'):=fun W hf=>zoj ao L cap ws W (hT.rs.keep hf) hT.len (by have:=hok.2.2.1;have:=hT.len;omega) (fun y hy=>(hok.2.2.2 y hy).2.1);have hdl:(dd ws).length<=32:=by have:=hok.2.2.1;have:=zgx ws;omega
 have hF0:Fr [] w (w.alloc (.cells #[.int .i64 n,.slice ao L cap] 54)):=Fr.alloc _ _ _;have hrow0:=heap_alloc_new w (.cells #[.int .i64 n,.slice ao L cap] 54);obtain⟨w1,HW1⟩:∃w1,Hid (w.alloc (.cells #[.int .i64 n,.slice ao L cap] 54)=w1):=⟨_,rfl⟩;obtain⟨B,HB⟩:∃B,Hid (w.heap.size=B):=⟨_,rfl⟩;rw[HW1.out]at hF0 hrow0
 rw[HB.out]at hrow0
 have b1:w1.cell? ⟨B,1,none⟩=some (.slice ao L cap):=by rw[crw hrow0];rfl
 have HF0:Hid (Fr [] w w1):=hF0;have HE:Hid (tnC ws true=2/\tnC ws false=5+2*(dd ws).length):=⟨rfl,rfl⟩;generalize (dd ws).length=D at HQ hdl HE;clear hT hok hF0 hrow0;cases sk with
 |true=>
  go_enter func103,ntmps103;go_upto_region 1 with fail
  rw[HW1.out,HB.out];go_wp2_with fail
  go_ret;exact⟨by rw[HE.out.1];rfl,HF0.out⟩
 |false=>
  go_enter func103,ntmps103;go_upto_region 1 with fail
  rw[HW1.out,HB.out];go_wp2_with fail
  refine (HQ.out _ HF0.out).mono ?_;rintro e w2⟨rfl,hF2⟩;have HF2:Hid (Fr [] w w2):=HF0.out.then hF2;have HT:Hid (∀W,Fr [] (w2.alloc (.cells #[.int .i64 5,.int .i64 (2*(D:Int))] 3)) W->Calls prog 104 #[.slice (some ⟨w2.heap.size,0,none⟩) 2 2] W fun e w'=>e=.returned (.int .i64 (5+2*(D:Int)))/\Fr [] W w'):=fun W hf=>by
   have hr:=hf.keep (heap_alloc_new w2 (.cells #[.int .i64 5,.int .i64 (2*(D:Int))] 3)) (by simp);refine (zmb (some ⟨w2.heap.size,0,none⟩) 2 2 [5,2*(D:Int)] W ⟨fun _=>⟨_,0,rfl,lt_of_block hr,fun i hi=> ?_⟩,by simp⟩ rfl ?_ (by omega)).mono ?_
   .have:i=0\/i=1:=by simp at hi;omega
    rcases this with rfl|rfl<;>(rw[crw hr];rfl)
   .intro x hx;simp at hx;rcases hx with rfl|rfl<;>omega
   rintro e w3⟨rfl,h3⟩;exact⟨by simp[sumI],h3⟩
  go_wp2_with fail
  refine (HT.out _ (Fr.refl _ _)).mono ?_;rintro e w3⟨rfl,hF3⟩;go_wp2_with fail
  go_ret;exact⟨by rw[HE.out.2];simp,(HF2.out.then (Fr.alloc _ _ _)).then hF3⟩
theorem zaco(n:Int)(ws:List Wt):∃c:Nat,(okT n ws/\c=0)\/(¬okT n ws/\c=1):=by
 by_cases h:okT n ws
 .exact⟨0,.inl ⟨h,rfl⟩⟩
 exact⟨1,.inr ⟨h,rfl⟩⟩
theorem TArg.box{w:World}{n:Int}{ao:Option Addr}{L cap:Nat}{W:World}(hf:Fr [] (w.alloc (.cells #[.int .i64 n,.slice ao L cap] 54)) W):W.cell? ⟨w.heap.size,0,none⟩=some (.int .i64 n)/\W.cell? ⟨w.heap.size,1,none⟩=some (.slice ao L cap):=by
 have hr:=hf.keep (heap_alloc_new w (.cells #[.int .i64 n,.slice ao L cap] 54)) (by simp);constructor<;>(rw[crw hr];rfl)
theorem zzk(n:Int)(ao:Option Addr)(L cap:Nat)(ws:List Wt)(sk:Bool)(w:World)(hT:TArg w n ao L cap ws) :
  Calls prog 40 #[.agg #[.int .i64 n,.slice ao L cap],.bool sk] w fun e w'=>∃r c:Int,e=.returned (.tuple #[.int .i64 r,.int .i64 c])/\TnP n ws sk r c/\Fr [] w w':=by
 obtain⟨c,hc⟩:=zaco n ws;have HQ:Hid (∀W,Fr [] w W->Calls prog 68 #[.agg #[.int .i64 n,.slice ao L cap]] W fun e w'=>e=.returned (.int .i64 (c:Int))/\Fr [] W w'):=fun W hf=>zfb n ao L cap c ws W (hT.keep hf).rs hT.len hT.n0 hT.n1 hc;have HB:Hid (∀W,Fr [] (w.alloc (.cells #[.int .i64 n,.slice ao L cap] 54)) W->W.cell? ⟨w.heap.size,0,none⟩=some (.int .i64 n)/\W.cell? ⟨w.heap.size,1,none⟩=some (.slice ao L cap)):=fun W hf=>TArg.box hf;have HF0:Hid (Fr [] w (w.alloc (.cells #[.int .i64 n,.slice ao L cap] 54))):=Fr.alloc _ _ _;obtain⟨w1,HW1⟩:∃w1,Hid (w.alloc (.cells #[.int .i64 n,.slice ao L cap] 54)=w1):=⟨_,rfl⟩;rw[HW1.out]at HB HF0
 obtain⟨B,HBw⟩:∃B,Hid (w.heap.size=B):=⟨_,rfl⟩;rw[HBw.out]at HB
 obtain⟨a0,a1⟩:=HB.out _ (Fr.refl _ _);have HOf:Hid (okT n ws->∀W,Fr [] w W->Calls prog 27 #[.agg #[.int .i64 n,.slice ao L cap]] W fun e w'=>∃ro N rc,e=.returned (.slice ro N rc)/\N=(dd ws).length/\Fr [] W w'):=fun hk W hf=>(zoi n ao L cap ws W (hT.keep hf).rs hT.len (by have:=hk.2.2.1;have:=hT.len;omega)).mono (by
  rintro e w'⟨ro,N,rc,h1,h2,h3⟩;exact⟨ro,N,rc,h1,h2.len,h3⟩)
 have HD:Hid (okT n ws->(dd ws).length<=32):=fun hk=>by have:=hk.2.2.1;have:=zgx ws;omega
 have HC:Hid (_\/_):=hc;clear hT hc;go_enter func40,ntmps40;go_upto_region 1 with fail
 rw[HW1.out,HBw.out];clear HW1 HBw;go_wp2_with fail
 refine (HQ.out _ HF0.out).mono ?_;rintro e w2⟨rfl,hF2⟩;have HF2:Hid (Fr [] w w2):=HF0.out.then hF2;obtain⟨a0',a1'⟩:=HB.out _ hF2;clear a0 a1 HB;rcases HC.out with⟨hk,rfl⟩|⟨hk,rfl⟩
 .have hne:((((0:Nat):Int)) != 0)=false:=rfl;have HK:Hid (okT n ws):=hk;have hD:=HD.out hk;clear hk HC HD;cases sk with
  |true=>
   go_wp2_with fail
   go_ret2;exact⟨_,_,rfl,.inl ⟨HK.out,rfl,rfl⟩,HF2.out⟩
  |false=>
   go_wp2_with fail
   refine (HOf.out HK.out _ HF2.out).mono ?_;rintro e w3⟨ro,N,rc,rfl,hN,hF3⟩;have hN2:N<=32:=by omega
   have HN:Hid (N=(dd ws).length):=hN;clear hN hD;go_wp2_with fail
   go_ret2;exact⟨_,_,rfl,.inl ⟨HK.out,by show _=((5+2*(dd ws).length:Nat):Int);rw[<-HN.out];omega,rfl⟩,HF2.out.then hF3⟩
 have hne:((((1:Nat):Int)) != 0)=true:=rfl;have HK:Hid (¬okT n ws):=hk;clear hk HC;go_wp2_with fail
 go_ret2;exact⟨_,_,rfl,.inr ⟨HK.out,rfl,rfl⟩,HF2.out⟩
def Rise(p N:Int):List Int->Prop
 | []=>True
 |x::r=>p<x/\x<=N/\Rise x N r
theorem zvu(xs:List Int)(i:Nat)(h:i<xs.length):xs.drop i=xs.getD i 0::xs.drop (i+1):=by
 rw[List.drop_eq_getElem_cons h];simp[List.getD,h]
theorem zagw(xs:List Tm)(i:Nat)(h:i<xs.length):xs.drop i=xs.getD i Tm.zero::xs.drop (i+1):=by
 rw[List.drop_eq_getElem_cons h];simp[List.getD,h]
def hits(n:Int):List Int->Bool
 | []=>false
 |b::_=>b==n
def nxt(n:Int)(bs:List Int):List Int:=if hits n bs then bs.tail else bs
noncomputable def stL:List Tm->List Int->List Int
 | [],_=>[]
 |t::r,bs=>((tnC t.ws (hits t.n bs):Nat):Int)::stL r (nxt t.n bs)
theorem zzl:∀(ts:List Tm)(bs:List Int),(∀t∈ts,okT t.n t.ws)->∀x∈stL ts bs,0<=x/\x<=((1048576:Nat):Int)
 | [],_,_,x,hx=>by cases hx
 |t::r,bs,h,x,hx=>by
  rcases List.mem_cons.1 hx with rfl|hx
  .have:=zajl (h t List.mem_cons_self).2.2.1 (hits t.n bs);omega
  exact zzl r _ (fun u hu=>h u (List.mem_cons_of_mem _ hu)) x hx
def LgOk(ts:List Tm)(m:Int)(bs:List Int):Prop:=okL 1 (txs ts)/\0<=m/\m<=(ts.length:Int)/\Rise (m+1) (ts.length:Int) bs
theorem zrl:∀{l:List Tx}{k:Nat},okL k l->∀t∈l,t.ok
 | [],_,_,t,ht=>by cases ht
 |x::r,k,h,t,ht=>by
  rcases List.mem_cons.1 ht with rfl|ht
  .exact h.1
  exact zrl h.2.2 t ht
theorem zrm{ts:List Tm}(h:okL 1 (txs ts)):(∀t∈ts,okT t.n t.ws)/\ts.length<=65536:=by
 refine⟨fun t ht=>zrl h t.tx (List.mem_map.2 ⟨t,ht,rfl⟩),?_⟩;have:=zcr h;rw[zaf]at this
 exact this
theorem TRs.drop22{w:World}{ao so:Option Addr}{ts:List Tm}(h:TRs w ao ts)(K:Nat)(hso:K<ts.length->∀b off,ao=some ⟨b,off,none⟩->so=some ⟨b,off+K*2,none⟩):TRs w so (ts.drop K):=by
 refine⟨fun h0=> ?_,by have:=h.few;rw[List.length_drop];omega,fun t ht=>h.each t (List.mem_of_mem_drop ht)⟩;rw[List.length_drop]at h0
 obtain⟨b,off,e,hb,hc⟩:=h.lies (by omega);refine⟨b,off+K*2,hso (by omega) b off e,hb,fun i hi=> ?_⟩;rw[List.length_drop]at hi
 have e2:(ts.drop K).getD i Tm.zero=ts.getD (K+i) Tm.zero:=by simp[List.getD]
 rw[e2,show off+K*2+i*2=off+(K+i)*2 from by omega];exact hc _ (by omega)
theorem IRs.drop22{w:World}{ao so:Option Addr}{x:Int}{xs:List Int}(h:IRs w ao (x::xs))(hso:0<xs.length->∀b off,ao=some ⟨b,off,none⟩->so=some ⟨b,off+1,none⟩):IRs w so xs:=by
 refine⟨fun h0=> ?_,by have:=h.few;simp at this;omega⟩;obtain⟨b,off,e,hb,hc⟩:=h.lies (by simp);refine⟨b,off+1,hso h0 b off e,hb,fun i hi=> ?_⟩;have:=hc (i+1) (by simp;omega);rw[show off+1+i=off+(i+1) from by omega,this];simp[List.getD]
theorem IRs.cell22{w:World}{ao:Option Addr}{x:Int}{xs:List Int}(h:IRs w ao (x::xs)):∃b off,ao=some ⟨b,off,none⟩/\w.cell? ⟨b,off,none⟩=some (.int .i64 x):=by
 obtain⟨b,off,e,hb,hc⟩:=h.lies (by simp);exact⟨b,off,e,by simpa using hc 0 (by simp)⟩
theorem IOw.irs22{base:Nat}{w:World}{o:Option Addr}{n c:Nat}{xs:List Int}(h:IOw base w o n c xs)(hn:n<=17592186044416):IRs w o xs:=by
 refine⟨fun h0=> ?_,by rw[<-h.len];exact hn⟩;obtain⟨g,e,_,hg,hc⟩:=h.cells (by rw[h.len];exact h0);exact⟨g,0,e,hg,fun i hi=>by simpa using hc i (by rw[h.len];exact hi)⟩
theorem ztr:prog.underlying 24=some (.slice (prog.elem 24)):=by kernel_rfl
theorem zacp:prog.elem 24=54:=by kernel_rfl
theorem zagx(w:World):(sizeOf 54).run prog w=.ok 2 w:=by kernel_rfl
theorem zts:prog.underlying 28=some (.slice (prog.elem 28)):=by kernel_rfl
theorem zacq:prog.elem 28=3:=by kernel_rfl
theorem zagy(w:World):(sizeOf 3).run prog w=.ok 1 w:=by kernel_rfl
theorem zvv(ao:Option Addr)(L cap K:Nat)(h1:K<=L)(h2:L<=cap) :
  ∃so,(∀w,(Instr.slice 24 (.slice ao L cap) (some (.int .i64 (K:Int))) Option.none Option.none).run prog w=.ok (.slice so (L-K) (cap-K)) w)/\(∀w,(Instr.sliceAt 24 (.slice ao L cap) (some (.int .i64 (K:Int))) Option.none Option.none).run prog w=.ok (.slice so (L-K) (cap-K)) w)/\(K<L->∀b off,ao=some ⟨b,off,none⟩->so=some ⟨b,off+K*2,none⟩):=by
 have key:∀w,(Instr.slice 24 (.slice ao L cap) (some (.int .i64 (K:Int))) Option.none Option.none).run prog w=.ok (.slice (if cap=K then ao else ao.map (·.add (K*2))) (L-K) (cap-K)) w:=fun w=>by
  rw[run_slice_l w 24 _ _ _ ztr .i64 (K:Int) (by omega) (by omega),zacp,zagx];simp[Result.andThen,sliced]
 refine⟨_,key,fun w=>by rw[run_sliceAt_slice w 24 _ _ _ _ ztr];exact key w,fun h b off e=> ?_⟩;rw[if_neg (by omega),e];simp[Addr.add]
theorem zvw(ao:Option Addr)(L cap:Nat)(h1:1<=L)(h2:L<=cap) :
  ∃so,(∀w,(Instr.slice 28 (.slice ao L cap) (some (.int .i64 1)) Option.none Option.none).run prog w=.ok (.slice so (L-1) (cap-1)) w)/\(∀w,(Instr.sliceAt 28 (.slice ao L cap) (some (.int .i64 1)) Option.none Option.none).run prog w=.ok (.slice so (L-1) (cap-1)) w)/\(1<L->∀b off,ao=some ⟨b,off,none⟩->so=some ⟨b,off+1,none⟩):=by
 have key:∀w,(Instr.slice 28 (.slice ao L cap) (some (.int .i64 1)) Option.none Option.none).run prog w=.ok (.slice (if cap=1 then ao else ao.map (·.add 1)) (L-1) (cap-1)) w:=fun w=>by
  rw[run_slice_l w 28 _ _ _ zts .i64 1 (by omega) (by omega),zacq,zagy];simp[Result.andThen,sliced]
 refine⟨_,key,fun w=>by rw[run_sliceAt_slice w 28 _ _ _ _ zts];exact key w,fun h b off e=> ?_⟩;rw[if_neg (by omega),e];simp[Addr.add]
def zajm(e:Ending)(P:Prop):Prop:=∃B:Bool,e=.returned (.bool B)/\(B=true↔P)
theorem zzm(bo:Option Addr)(Lb cb:Nat)(bs:List Int)(m N:Int)(w:World)(hI:IRs w bo bs)(hL:Lb=bs.length)(hm:0<=m/\m<=140737488355328) :
  Calls prog 102 #[.slice bo Lb cb,.int .i64 m,.int .i64 N] w fun e w'=>zajm e (Rise (m+1) N bs)/\Fr [] w w':=by
 have HL:Hid (Lb=bs.length):=hL;have HI:Hid (∀W,Fr [] w W->IRs W bo bs):=fun W hf=>hI.keep hf;have hfew:=hI.few;rw[<-hL]at hfew
 have HR0:Hid (Rise (m+1) N bs↔Rise (m+1) N (bs.drop 0)):=by show _↔_;simp
 clear hI hL;go_enter func102,ntmps102;go_wp2_with fail
 go_loopw [7,14] (fun vv ii wr=>∃(v:Int)(i:Nat),vv=.int .i64 v/\ii=.int .i64 i/\i<=Lb/\Hid (Rise (m+1) N bs↔Rise v N (bs.drop i))/\Fr [] w wr) (fun _ ii _=>Lb-(RowKit.intOf ii).toNat)
 case atStart=>exact⟨m+1,0,rfl,rfl,Nat.zero_le _,HR0,Fr.refl _ _⟩
 obtain⟨v,i,rfl,rfl,hiL,HR,hF⟩:=hrel;by_cases hi:i<Lb
 .obtain⟨bb,off,rfl,_,hc⟩:=(HI.out _ hF).lies (by rw[<-HL.out];omega);have d0:=hc i (by rw[<-HL.out];exact hi);have HD:Hid (bs.drop i=bs.getD i 0::bs.drop (i+1)):=zvu bs i (by rw[<-HL.out];exact hi);generalize bs.getD i 0=x at d0 HD;have HR2:Hid (Rise (m+1) N bs↔v<x/\x<=N/\Rise x N (bs.drop (i+1))):=by
   show _↔_;rw[HR.out,HD.out];exact Iff.rfl
  clear hc HR HD HR0;by_cases h1:x<=v
  .have e1:decide (x<=v)=true:=by simp[h1]
   have HN:Hid (¬Rise (m+1) N bs):=fun h=>by have:=(HR2.out.1 h).1;omega
   clear HR2;go_wp2_with fail
   go_ret;exact⟨⟨false,rfl,⟨fun h=>(by cases h),fun h=>absurd h HN.out⟩⟩,hF⟩
  have e1:decide (x<=v)=false:=by simp[h1]
  by_cases h2:N<x
  .have e2:decide (N<x)=true:=by simp[h2]
   have HN:Hid (¬Rise (m+1) N bs):=fun h=>by have:=(HR2.out.1 h).2.1;omega
   clear HR2;go_wp2_with fail
   go_ret;exact⟨⟨false,rfl,⟨fun h=>(by cases h),fun h=>absurd h HN.out⟩⟩,hF⟩
  have e2:decide (N<x)=false:=by simp[h2]
  have HR3:Hid (Rise (m+1) N bs↔Rise x N (bs.drop (i+1))):=by
   show _↔_;rw[HR2.out];exact⟨fun h=>h.2.2,fun h=>⟨by omega,by omega,h⟩⟩
  clear HR2;go_wp2_with fail
  go_roundw;case rel=>exact⟨x,i+1,rfl,by simp,by omega,HR3,hF⟩
  case measure=>simp[RowKit.intOf];omega
 obtain rfl:i=Lb:=by omega
 have HY:Hid (Rise (m+1) N bs):=by
  rw[HL.out,List.drop_length]at HR
  exact HR.out.2 trivial
 clear HR HR0 hi hiL;go_wp2_with fail
 go_ret;exact⟨⟨true,rfl,⟨fun _=>HY.out,fun _=>rfl⟩⟩,hF⟩
structure LgI(base:Nat)(w wr:World)(ds:List Tm)(bs:List Int)(i:Nat)(v2 v8:Value):Prop where
 ex:∃(q acc:List Int)(so:Option Addr)(n c:Nat)(eo:Option Addr)(N ec:Nat),v2=.slice so n c/\v8=.slice eo N ec/\n=q.length/\n<=c/\N=i/\Hid (∀W,Fr [] w W->IRs W so q)/\Hid (IOw base wr eo N ec acc)/\Hid (acc++stL (ds.drop i) q=stL ds bs)
 fr:Fr [] w wr
theorem zagz(ao:Option Addr)(L cap:Nat)(ts:List Tm)(M:Nat)(bo:Option Addr)(Lb cb:Nat)(bs:List Int)(w:World)(hT:TRs w ao ts)(hL:L=ts.length)(hcap:L<=cap)(hI:IRs w bo bs)(hLb:Lb=bs.length)(hcb:Lb<=cb)(hok:LgOk ts (M:Int) bs) :
  Calls prog 61 #[.slice ao L cap,.int .i64 (M:Int),.slice bo Lb cb] w fun e w'=>e=.returned (.tuple #[.int .i64 (sumI (stL (ts.drop M) bs)),.int .i64 0])/\Fr [] w w':=by
 obtain⟨ho1,_,ho2,ho3⟩:=hok;obtain⟨hok1,hfew⟩:=zrm ho1;have hML:M<=L:=by omega
 have hL6:L<=65536:=by omega
 obtain⟨cc,hcc⟩:=Bad.ex (txs ts) 1;have hc0:cc=0:=hcc.ok.2 ho1;subst hc0;have HCk:Hid (∀W,Fr [] w W->Calls prog 78 #[.slice ao L cap] W fun e w'=>e=.returned (.int .i64 0)/\Fr [] W w'):=fun W hf=>F.lcheck_any ao L cap 0 ts W (hT.keep hf) hL hcc;have HMb:Hid (∀W,Fr [] w W->Calls prog 102 #[.slice bo Lb cb,.int .i64 (M:Int),.int .i64 (L:Int)] W fun e w'=>e=.returned (.bool true)/\Fr [] W w'):=fun W hf=>(zzm bo Lb cb bs M L W (hI.keep hf) hLb (by omega)).mono (by
  rintro e w'⟨⟨B,rfl,hB⟩,h2⟩;have:B=true:=hB.2 (by rw[hL];exact ho3);subst this;exact⟨rfl,h2⟩)
 obtain⟨so,hs1,hs2,hs3⟩:=zvv ao L cap M hML hcap;have HTd:Hid (∀W,Fr [] w W->TRs W so (ts.drop M)):=fun W hf=>(hT.keep hf).drop22 M (fun h=>hs3 (by omega));have HI0:Hid (∀W,Fr [] w W->IRs W bo bs):=fun W hf=>hI.keep hf;have hDl:(ts.drop M).length=L-M:=by rw[List.length_drop];omega
 have HOk:Hid (∀t∈ts.drop M,okT t.n t.ws):=fun t ht=>hok1 t (List.mem_of_mem_drop ht);have HLb:Hid (Lb=bs.length):=hLb;generalize ts.drop M=ds at HTd hDl HOk ⊢;clear hok1 hfew ho1 ho2 ho3 hT hI hcc hs3 hL hLb;obtain⟨D,hD⟩:∃D,D=L-M:=⟨_,rfl⟩;rw[<-hD]at hDl hs1 hs2
 have HDl:Hid (ds.length=D):=hDl;have hD6:D<=65536:=by omega
 have hcM:D<=cap-M:=by omega
 generalize cap-M=cM at hs1 hs2 hcM;clear hDl hD;have n1:((0:Int) != 0)=false:=rfl;have n2:decide ((M:Int)<0)=false:=by simp
 have n3:decide ((L:Int)<(M:Int))=false:=by simp;omega
 have hn2:¬((M:Int)<0):=by omega
 have hn3:¬((L:Int)<(M:Int)):=by omega
 go_enter func61,ntmps61;go_wp2_with fail
 refine (HCk.out _ (Fr.refl _ _)).mono ?_;rintro e w1⟨rfl,hF1⟩;go_wp2_with fail
 refine (HMb.out _ hF1).mono ?_;rintro e w2⟨rfl,hF2⟩;have HF2:Hid (Fr [] w w2):=hF1.then hF2;clear HCk HMb hF1 hF2;go_wp2_with fail
 have n4:decide (L<M)=false:=by simp;omega
 simp only[n4];go_loopw [2,8,37] (fun v2 v8 ii wr=>∃(i:Nat),ii=.int .i64 i/\i<=D/\LgI w.heap.size w wr ds bs i v2 v8) (fun _ _ ii _=>D-(RowKit.intOf ii).toNat)
 case atStart=>exact⟨0,rfl,Nat.zero_le _,⟨⟨bs,[],bo,Lb,cb,none,0,0,rfl,rfl,HLb.out,hcb,rfl,HI0.out,IOw.nil _ _,by show _=_;simp⟩,HF2.out⟩⟩
 obtain⟨i,rfl,hiD,⟨⟨q,acc,qo,n,c,eo,N,ec,rfl,rfl,hn,hnc,hN,HQ,HE,HS⟩,hF⟩⟩:=hrel;subst hN;by_cases hi:N<D
 .have hi':N<ds.length:=by rw[HDl.out];exact hi
  have hT:=HTd.out _ hF;obtain⟨bb,off,rfl,_,hc⟩:=hT.lies (by omega);obtain⟨d0,d1⟩:=hc N hi';have hk:=HOk.out _ (zap ds N hi');have hat:=(HTd.out _ (Fr.refl _ _)).each _ (zap ds N hi');have HS1:Hid (acc++stL (ds.getD N Tm.zero::ds.drop (N+1)) q=stL ds bs):=by
   show _=_;rw[<-zagw ds N hi'];exact HS.out
  generalize ds.getD N Tm.zero=t at d0 d1 hk hat HS1;obtain⟨num,wo,wL,wc,ws⟩:=t;simp only at d0 d1 hk hat
  have HOf:Hid (∀sk W,Fr [] w W->Calls prog 103 #[.agg #[.int .i64 num,.slice wo wL wc],.bool sk] W fun e w'=>e=.returned (.int .i64 (tnC ws sk:Int))/\Fr [] W w'):=fun sk W hf=>zvt num wo wL wc ws sk W (TArg.keep hat hf) hk;have HSn:Hid (acc++((tnC ws (hits num q):Nat):Int)::stL (ds.drop (N+1)) (nxt num q)=stL ds bs):=HS1.out;clear HS HS1 hk hat hc hT;obtain⟨w3,HW3⟩:∃w3,Hid (wr.alloc (.cells #[.int .i64 num,.slice wo wL wc] 54)=w3):=⟨_,rfl⟩;obtain⟨B9,HB9⟩:∃B9,Hid (B9=wr.heap.size):=⟨_,rfl⟩;have hF3:Fr [] wr w3:=by rw[<-HW3.out];exact Fr.alloc [] wr _
  have hby:w3.heap[B9]? = some (.cells #[.int .i64 num,.slice wo wL wc] 54 (0,0)):=by rw[<-HW3.out,HB9.out];exact heap_alloc_new wr _
  have e0:w3.cell? ⟨B9,0,none⟩=some (.int .i64 num):=by rw[crw hby];rfl
  have e1:w3.cell? ⟨B9,1,none⟩=some (.slice wo wL wc):=by rw[crw hby];rfl
  have hG3:Fr [] w w3:=hF.then hF3;clear hby;go_upto_region 7 with fail
  rw[HW3.out,<-HB9.out];clear HW3 HB9 d0 d1;cases q with
  |nil=>
   obtain rfl:n=0:=hn;have HS2:Hid ((acc++[((tnC ws false:Nat):Int)])++stL (ds.drop (N+1)) []=stL ds bs):=by
    show _=_;rw[List.append_assoc];exact HSn.out
   clear HSn
   go_quiet (fail)
   go_wp2_with fail
   refine (HOf.out false _ (hG3.then (by first|exact Fr.drewN [] _ _|exact Fr.drew [] _|exact Fr.refl _ _))).mono ?_;rintro e w5⟨rfl,hF5⟩;have HW:Hid (Fr [] wr w5):=(hF3.then (by first|exact Fr.drewN [] _ _|exact Fr.drew [] _|exact Fr.refl _ _)).then hF5;have HO2:Hid (∀W,Fr [] w5 W->IOw w.heap.size W eo N ec acc):=fun W hf=>HE.out.keep (HW.out.then hf);have HB2:Hid (∀W W',Fr [] w5 W->Fr (Value.slice eo N ec).ownBlock.toList W W'->Fr [] w W'):=fun W W' h1 h2=>HE.out.on (Nat.le_refl _) hF (HW.out.then h1) h2;have hsz:w.heap.size<=w5.heap.size:=Nat.le_trans hF.size HW.out.size;clear hF5 hF3 hG3 e0 e1;go_wp2_with (first
    |(
     at_builtin;refine zcq w.heap.size _ rfl _ _ rfl eo N ec acc rfl (HO2.out _ (Fr.alloc [] _ _)) _ _ ((tnC ws false:Nat):Int) rfl ?hcell (by omega) ?hsize ?_
     case hcell=>exact zcu _ _ _
     case hsize=>simp;omega
     intro o' c' w9 hO9 hF9 _;have HR9:Hid (_/\_):=⟨hO9,HB2.out _ _ (Fr.alloc [] _ _) hF9⟩;clear hO9 hF9;go_frame)
    |fail)
   go_roundw;case rel=>exact⟨N+1,by simp,by omega,⟨⟨[],acc++[((tnC ws false:Nat):Int)],qo,0,c,o',N+1,c',rfl,rfl,rfl,hnc,rfl,HQ,HR9.out.1,HS2.out⟩,HR9.out.2⟩⟩
   case measure=>simp[RowKit.intOf];omega
  |cons x q=>
   obtain⟨n,rfl⟩:∃m,n=m+1:=⟨q.length,hn⟩;obtain⟨qb,qf,rfl,g0⟩:=(HQ.out _ hG3).cell22;have hnq:n=q.length:=by simpa using hn
   have HNq:Hid (n=q.length):=hnq;clear hnq hn;by_cases hx:x=num
   .have hxe:(x==num)=true:=(by simp[hx]);have HS2:Hid ((acc++[((tnC ws true:Nat):Int)])++stL (ds.drop (N+1)) q=stL ds bs):=by
     show _=_;have h:=HSn.out;simp only[hits,nxt,hxe,if_true,List.tail_cons]at h;rw[List.append_assoc];exact h
    obtain⟨so2,hz1,hz2,hz3⟩:=zvw (some ⟨qb,qf,none⟩) (n+1) c (by omega) hnc;have HQ2:Hid (∀W,Fr [] w W->IRs W so2 q):=fun W hf=>(HQ.out W hf).drop22 (fun h=>hz3 (by rw[HNq.out];omega));rw[show n+1-1=n from by omega]at hz1 hz2
    have hnc2:n<=c-1:=(by omega);generalize c-1=c1 at hz1 hz2 hnc2;clear HSn hx hz3
    go_quiet (fail)
    go_wp2_with fail
    refine (HOf.out true _ (hG3.then (by first|exact Fr.drewN [] _ _|exact Fr.drew [] _|exact Fr.refl _ _))).mono ?_;rintro e w5⟨rfl,hF5⟩;have HW:Hid (Fr [] wr w5):=(hF3.then (by first|exact Fr.drewN [] _ _|exact Fr.drew [] _|exact Fr.refl _ _)).then hF5;have HO2:Hid (∀W,Fr [] w5 W->IOw w.heap.size W eo N ec acc):=fun W hf=>HE.out.keep (HW.out.then hf);have HB2:Hid (∀W W',Fr [] w5 W->Fr (Value.slice eo N ec).ownBlock.toList W W'->Fr [] w W'):=fun W W' h1 h2=>HE.out.on (Nat.le_refl _) hF (HW.out.then h1) h2;have hsz:w.heap.size<=w5.heap.size:=Nat.le_trans hF.size HW.out.size;clear hF5 hF3 hG3 e0 e1;go_wp2_with (first
     |(
      at_builtin;refine zcq w.heap.size _ rfl _ _ rfl eo N ec acc rfl (HO2.out _ (Fr.alloc [] _ _)) _ _ ((tnC ws true:Nat):Int) rfl ?hcell (by omega) ?hsize ?_
      case hcell=>exact zcu _ _ _
      case hsize=>simp;omega
      intro o' c' w9 hO9 hF9 _;have HR9:Hid (_/\_):=⟨hO9,HB2.out _ _ (Fr.alloc [] _ _) hF9⟩;clear hO9 hF9;go_frame)
     |fail)
    go_roundw;case rel=>exact⟨N+1,by simp,by omega,⟨⟨q,acc++[((tnC ws true:Nat):Int)],so2,n,c1,o',N+1,c',rfl,rfl,HNq.out,hnc2,rfl,HQ2,HR9.out.1,HS2.out⟩,HR9.out.2⟩⟩
    case measure=>simp[RowKit.intOf];omega
   have hxe:(x==num)=false:=by simp[hx]
   have HS2:Hid ((acc++[((tnC ws false:Nat):Int)])++stL (ds.drop (N+1)) (x::q)=stL ds bs):=by
    show _=_;have h:=HSn.out;simp only[hits,nxt,hxe,Bool.false_eq_true,if_false]at h;rw[List.append_assoc];exact h
   clear HSn hx
   go_quiet (fail)
   go_wp2_with fail
   refine (HOf.out false _ (hG3.then (by first|exact Fr.drewN [] _ _|exact Fr.drew [] _|exact Fr.refl _ _))).mono ?_;rintro e w5⟨rfl,hF5⟩;have HW:Hid (Fr [] wr w5):=(hF3.then (by first|exact Fr.drewN [] _ _|exact Fr.drew [] _|exact Fr.refl _ _)).then hF5;have HO2:Hid (∀W,Fr [] w5 W->IOw w.heap.size W eo N ec acc):=fun W hf=>HE.out.keep (HW.out.then hf);have HB2:Hid (∀W W',Fr [] w5 W->Fr (Value.slice eo N ec).ownBlock.toList W W'->Fr [] w W'):=fun W W' h1 h2=>HE.out.on (Nat.le_refl _) hF (HW.out.then h1) h2;have hsz:w.heap.size<=w5.heap.size:=Nat.le_trans hF.size HW.out.size;clear hF5 hF3 hG3 e0 e1;go_wp2_with (first
    |(
     at_builtin;refine zcq w.heap.size _ rfl _ _ rfl eo N ec acc rfl (HO2.out _ (Fr.alloc [] _ _)) _ _ ((tnC ws false:Nat):Int) rfl ?hcell (by omega) ?hsize ?_
     case hcell=>exact zcu _ _ _
     case hsize=>simp;omega
     intro o' c' w9 hO9 hF9 _;have HR9:Hid (_/\_):=⟨hO9,HB2.out _ _ (Fr.alloc [] _ _) hF9⟩;clear hO9 hF9;go_frame)
    |fail)
   go_roundw;case rel=>exact⟨N+1,by simp,by omega,⟨⟨x::q,acc++[((tnC ws false:Nat):Int)],(some ⟨qb,qf,none⟩),n+1,c,o',N+1,c',rfl,rfl,(by rw[HNq.out];rfl),hnc,rfl,HQ,HR9.out.1,HS2.out⟩,HR9.out.2⟩⟩
   case measure=>simp[RowKit.intOf];omega
 obtain rfl:N=D:=by omega
 have HS2:Hid (acc=stL ds bs):=by
  have h:=HS.out;rw[<-HDl.out,List.drop_length]at h
  show _=_;simpa[stL]using h
 have HT:Hid (Calls prog 104 #[.slice eo N ec] wr fun e w'=>e=.returned (.int .i64 (sumI (stL ds bs)))/\Fr [] wr w'):=by
  have h:=zmb eo N ec acc wr (HE.out.irs22 (by omega)) HE.out.len (by rw[HS2.out];exact zzl ds bs HOk.out) (by omega);rw[HS2.out]at h
  exact h
 clear hi hiD HS;go_wp2_with fail
 refine HT.out.mono ?_;rintro e w4⟨rfl,hF4⟩;go_wp2_with fail
 go_ret2;exact⟨rfl,hF.then hF4⟩
end Go.Proofs.YtaigdcmoecgabaaGreat
