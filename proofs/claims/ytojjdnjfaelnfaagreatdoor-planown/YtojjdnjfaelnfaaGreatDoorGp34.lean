/- Contracts and lemmas. -/
import Derived.Test.YtojjdnjfaelnfaaGreatDoorGp6
import Derived.Laws.Cover1
import Derived.Maps.OwnSet
import Derived.Laws.EntriesVeiled
set_option maxHeartbeats 16000000
set_option maxRecDepth 100000
namespace Go.Proofs.YtojjdnjfaelnfaaGreatDoor
set_option linter.unusedSimpArgs false
set_option linter.unusedVariables false
namespace Fo
open Go.ChangeShapes Go.WideShapes Go.ChangeAt Go.RowKit Go.Lib Go.Maps Go.Proofs.Tryz
def SBox(w:World)(b:Nat)(s:ByteArray):Prop:=w.heap[b]? = some (.cells #[.string s] 9 (0,0))
theorem SBox.c{w:World}{b:Nat}{s:ByteArray}(h:SBox w b s):w.cell? ⟨b,0,none⟩=some (.string s):=by unfold SBox at h;simp[World.cell?,h]
theorem SBox.keep{S:List Nat}{w w':World}{b:Nat}{s:ByteArray}(h:SBox w b s)(hf:Fr S w w')(hn:b∉S):SBox w' b s:=hf.keep h hn
theorem zsy(key en:ByteArray)(w:World):Calls prog 108 #[.string key,.string en] w fun e w'=>∃b c,e=.returned (.func (Fn.func 128) #[] #[.pointer (some ⟨b,0,none⟩),.pointer (some ⟨c,0,none⟩)])/\SBox w' b key/\SBox w' c en/\w.heap.size<=b/\w.heap.size<=c/\Fr [] w w':=by
 go_enter func108,ntmps108;go_wp2;go_ret;refine⟨_,_,rfl,?_,?_,Nat.le_refl _,Nat.le_succ _,(Fr.alloc [] w _).then (Fr.alloc [] _ _)⟩
 .exact (Fr.alloc [] _ _).keep (heap_alloc_new w (.cells #[.string key] 9)) (by simp)
 have:=heap_alloc_new (w.alloc (.cells #[.string key] 9)) (.cells #[.string en] 9);simpa[SBox]using this
def inS(key en s:ByteArray):Bool:= !(Op.bytesLess s.toList key.toList)&&(en.toList==[]||Op.bytesLess s.toList en.toList)
theorem zqy(b c:Nat)(key en s:ByteArray)(B:Bool)(w:World)(hb:SBox w b key)(hc:SBox w c en)(hB:B=inS key en s):Calls prog 128 #[.string s,.pointer (some ⟨b,0,none⟩),.pointer (some ⟨c,0,none⟩)] w fun e w'=>e=.returned (.bool B)/\Fr [] w w':=by
 have c0:=hb.c;have c1:=hc.c;have hE0:(⟨#[]⟩:ByteArray).toList=[]:=(zca _).2 rfl;obtain⟨G,hG⟩:∃G,Op.bytesLess s.toList key.toList=G:=⟨_,rfl⟩;obtain⟨E,hE⟩:∃E,(en.toList==([]:List UInt8))=E:=⟨_,rfl⟩;obtain⟨K,hK⟩:∃K,Op.bytesLess s.toList en.toList=K:=⟨_,rfl⟩;have hB':B=(!G&&(E||K)):=by rw[hB,<-hG,<-hE,<-hK];rfl
 have HB:Hid (B=(!G&&(E||K))):=hB';clear hB hB';have hundef:undef=Value.tuple #[]:=rfl;cases G<;>cases E<;>cases K<;>(go_enter func128,ntmps128;go_wp2;go_ret;exact⟨by rw[HB.out];rfl,Fr.refl _ _⟩)
end Fo
namespace Ch
open Go.ChangeShapes Go.WideShapes Go.ChangeAt Go.RowKit Go.Lib Go.Maps Go.Proofs.Tryz
theorem zakp:laidOutB prog=true:=by kernel_rfl
theorem zuk:(192:TypeId)<prog.types.size:=of_decide_eq_true (by kernel_rfl)
theorem zjv:prog.underlying 192=some (.struct (prog.fieldsOf 192)):=by kernel_rfl
theorem zwl:(prog.fieldsOf 192).toList.map (fun f=>(f.name != "_",f.type,f.offset))=[(true,9,0),(true,3,1)]:=by kernel_rfl
theorem zacv:(match prog.underlying 192 with|some (.array _ _)|some (.struct _)=>true|_=>false)=true:=by rw[zjv]
theorem keyedTurn:Keyed prog 192:=Keyed.of_law (deep_law_laid zakp (m:=2) (by omega) zuk (by kernel_rfl) zacv)
theorem zul:prog.underlying 184=some (.map 192 3):=by kernel_rfl
theorem zwm:prog.underlying 3=some (.int .i64):=by kernel_rfl
theorem zog:prog.cellsOf 192=2:=by kernel_rfl
theorem zagz:prog.cellsOf 9=1:=by kernel_rfl
theorem zaha:prog.cellsOf 3=1:=by kernel_rfl
theorem zacw:∃m,prog.types.size=m+1:=⟨prog.types.size-1,by have h:(192:Nat)<prog.types.size:=zuk;omega⟩
theorem zahb:prog.keyType 192=true:=by kernel_rfl
theorem zajk(w:World):(zeroValue 3).run prog w=.ok (.int .i64 0) w:=by kernel_rfl
theorem zlz(s:ByteArray)(m:Int)(hs:s.size<=maxLen)(hm:(Lit.int .i64 m).wf=true):keyOf prog 192 (.agg #[.string s,.int .i64 m])=some (.string (keyBytes [.string s.data.toList,.int .i64 m])):=by
 obtain⟨q,hq⟩:=zacw;have hF:=zwl;unfold keyOf;simp only[zjv];rw[if_pos (by simp[zahb,Value.formed,zjv,zog]),hq];unfold Program.keyLits;simp only[zjv,Value.cells];obtain⟨fs,hfs⟩:∃fs,fs=prog.fieldsOf 192:=⟨_,rfl⟩;rw[<-hfs]at hF ⊢
 obtain⟨l⟩:=fs;simp only at hF ⊢
 match l,hF with
 | [f0,f1],hF=>
  simp only[List.map_cons,List.map_nil,List.cons.injEq,Prod.mk.injEq,and_true]at hF;obtain⟨⟨n0,t0,o0⟩,⟨n1,t1,o1⟩⟩:=hF;rw[if_pos ⟨by rw[zog];rfl,by simp[n0,n1]⟩];rw[List.mapM_cons,List.mapM_cons,List.mapM_nil,t0,t1,o0,o1,zagz,zaha];simp[Program.keyLits,zwm,hs,hm]
theorem zahc{s t:ByteArray}{m n:Int}{kl:Lit}(h1:keyOf prog 192 (.agg #[.string s,.int .i64 m])=some kl)(h2:keyOf prog 192 (.agg #[.string t,.int .i64 n])=some kl):s=t/\m=n:=by
 have:=keyedTurn.inj h1 h2;simp at this;exact this
def MapF(w:World)(b n:Nat)(F:ByteArray->Int->Int):Prop:=
 ∃D:DataW Unit,w.ownsMap prog 192 (plainElem prog 3) b n D/\IsMap D/\∀s m kl,keyOf prog 192 (.agg #[.string s,.int .i64 m])=some kl->D.atKey kl (.lit (.int .i64 0))=.lit (.int .i64 (F s m))
theorem MapF.lt{w:World}{b n:Nat}{F:ByteArray->Int->Int}(h:MapF w b n F):b<w.heap.size:=by
 obtain⟨D,hD,_⟩:=h;exact hD.lt
theorem MapF.keep{S:List Nat}{w w':World}{b n:Nat}{F:ByteArray->Int->Int}(h:MapF w b n F)(hf:Fr S w w')(hn:b∉S):MapF w' b n F:=by
 have hlt:=h.lt;obtain⟨D,⟨es,clock,hb,hr⟩,h2⟩:=h;exact⟨D,⟨es,clock,(hf.block b hlt hn).trans hb,hr⟩,h2⟩
theorem MapF.mono{w:World}{b n m:Nat}{F:ByteArray->Int->Int}(h:MapF w b n F)(hn:n<=m):MapF w b m F:=by
 obtain⟨D,hD,h2⟩:=h;exact⟨D,hD.mono hn,h2⟩
theorem MapF.made(w:World):MapF (w.alloc (.map #[] 0)) w.heap.size 0 (fun _ _=>0):=
 ⟨.map [],World.ownsMap_made w _ _ _,⟨_,rfl⟩,fun s m kl h=>rfl⟩
def upd(F:ByteArray->Int->Int)(s:ByteArray)(m v:Int):ByteArray->Int->Int:=fun s' m'=>if s'=s/\m'=m then v else F s' m'
theorem MapF.look{w:World}{b n:Nat}{F:ByteArray->Int->Int}(h:MapF w b n F)(s:ByteArray)(m:Int)(hs:s.size<=maxLen)(hm:(Lit.int .i64 m).wf=true) :
  (Instr.lookup 184 (.map (some b)) (.agg #[.string s,.int .i64 m]) false).run prog w=.ok (.int .i64 (F s m)) w:=by
 obtain⟨D,hD,_,hF⟩:=h;have hk:=zlz s m hs hm;obtain⟨c,hrun,hat,_⟩:=hD.lookup_int keyedTurn zul zwm (zajk _) hk;rw[hF s m _ hk]at hat
 simp only[DataW.lit.injEq,Lit.int.injEq,true_and]at hat
 rw[hrun,hat]
theorem MapF.store{w:World}{b n:Nat}{F:ByteArray->Int->Int}(h:MapF w b n F)(s:ByteArray)(m v:Int)(hs:s.size<=maxLen)(hm:(Lit.int .i64 m).wf=true)(hv:(Lit.int .i64 v).wf=true)(hn:n<maxLen) :
  ∃w',(Instr.mapUpdate 184 (.map (some b)) (.agg #[.string s,.int .i64 m]) (.int .i64 v)).run prog w=.ok () w'/\MapF w' b (n+1) (upd F s m v)/\Fr [b] w w':=by
 obtain⟨D,hD,hI,hF⟩:=h;have hk:=zlz s m hs hm;obtain⟨w',hrun,hO,hg⟩:=hD.update keyedTurn zul hn hk (plainElem_int zwm hv);refine⟨w',hrun,⟨_,hO,?_,?_⟩,Fr.grown hg (by intro k hk _;cases hk;simp)⟩
 .obtain⟨es,rfl⟩:=hI;exact⟨_,rfl⟩
 intro s' m' kl hkl;unfold upd;by_cases he:s'=s/\m'=m
 .obtain⟨rfl,rfl⟩:=he;rw[hk]at hkl
  cases hkl;rw[if_pos ⟨rfl,rfl⟩];exact atKey_put_same hI (keyedTurn.key hk) _ _
 rw[if_neg he];rw[atKey_put_other (fun e=>he (zahc hkl (by rw[e];exact hk))),hF s' m' kl hkl]
def zdx(F:ByteArray->Int->Int)(s:ByteArray)(k:Int):ByteArray->Int->Int:=if F s 0=k then F else upd (upd F s k (F s 0)) s 0 k
theorem zjw{x:Int}(h0: -9223372036854775808<=x)(h1:x<=9223372036854775807):(Lit.int .i64 x).wf=true:=WalkArith.wf_i64 ⟨h0,h1⟩
theorem zacx(b n:Nat)(F:ByteArray->Int->Int)(s:ByteArray)(k:Int)(w:World)(h:MapF w b n F)(hs:s.size<=9007199254740992)(hk0:0<=k)(hk1:k<=9007199254740992)(hF0:0<=F s 0)(hF1:F s 0<=9007199254740992)(hn:n<9007199254740992) :
  Calls prog 127 #[.map (some b),.string s,.int .i64 k] w fun e w'=>e=.returned (.tuple #[])/\MapF w' b (n+2) (zdx F s k)/\Fr [b] w w':=by
 have hsm:s.size<=maxLen:=by unfold maxLen;omega
 obtain⟨w0,HW0⟩:∃w0,Hid (w.alloc (.cells #[.string s,.int .i64 0] 192)=w0):=⟨_,rfl⟩;have hF0':Fr [] w w0:=by rw[<-HW0.out];exact Fr.alloc [] w _
 have hb0:w0.heap[w.heap.size]? = some (.cells #[.string s,.int .i64 0] 192 (0,0)):=by rw[<-HW0.out];exact heap_alloc_new w _
 have c0:w0.cell? ⟨w.heap.size,0,none⟩=some (.string s):=by rw[crw hb0];rfl
 have c1:w0.cell? ⟨w.heap.size,1,none⟩=some (.int .i64 0):=by rw[crw hb0];rfl
 have h0:=h.keep hF0' (by simp);have hne:b≠w.heap.size:=by have:=h.lt;omega
 have hl0:=h0.look s 0 hsm (by decide);obtain⟨x,hx⟩:∃x,x=F s 0:=⟨_,rfl⟩;rw[<-hx]at hl0 hF0 hF1
 have HX:Hid (x=F s 0):=hx;clear hx;by_cases he:x=k
 .have heq:(x==k)=true:=by simp[he]
  have HR:Hid (MapF w0 b (n+2) (zdx F s k)):=by
   show MapF _ _ _ _;unfold zdx;rw[if_pos (by rw[<-HX.out];exact he)];exact h0.mono (by omega)
  clear he h h0;go_enter func127,ntmps127;go_upto_region 1 with fail
  rw[HW0.out];go_wp2;refine bodyPost_ret (results_none rfl _ _ _) rfl ?_;exact⟨rfl,HR.out,hF0'.mono (by simp)⟩
 have heq:(x==k)=false:=by simp[he]
 obtain⟨w1,hr1,hM1,hG1⟩:=h0.store s k x hsm (zjw (by omega) (by omega)) (zjw (by omega) (by omega)) (by unfold maxLen;omega);obtain⟨w2,hr2,hM2,hG2⟩:=hM1.store s 0 k hsm (by decide) (zjw (by omega) (by omega)) (by unfold maxLen;omega);have hb1:=hG1.keep hb0 (by simp;omega);have d0:w1.cell? ⟨w.heap.size,0,none⟩=some (.string s):=by rw[crw hb1];rfl
 have d1:w1.cell? ⟨w.heap.size,1,none⟩=some (.int .i64 0):=by rw[crw hb1];rfl
 have HR:Hid (MapF w2 b (n+2) (zdx F s k)/\Fr [b] w w2):=by
  refine⟨?_,(hF0'.mono (by simp)).then (hG1.then hG2)⟩;unfold zdx;rw[if_neg (by rw[<-HX.out];exact he),<-HX.out];exact hM2
 clear he h h0 hM1 hM2 hG1 hG2 hb0 hb1;go_enter func127,ntmps127;go_upto_region 1 with fail
 rw[HW0.out];go_wp2
 go_end0
 exact⟨rfl,HR.out⟩
end Ch
namespace Ch
open Fo Go.Proofs.Tryz
open Go.ChangeShapes Go.WideShapes Go.ChangeAt Go.RowKit Go.Lib Go.Maps
def zic(Pk:ByteArray->Bool)(n:Int)(F:ByteArray->Int->Int)(x:Wt):ByteArray->Int->Int:=if Pk x.key=true then zdx F x.key n else F
def zci(Pk:ByteArray->Bool)(n:Int)(F:ByteArray->Int->Int)(ws:List Wt):ByteArray->Int->Int:=ws.foldl (zic Pk n) F
def wall(Pk:ByteArray->Bool)(F:ByteArray->Int->Int)(l:List Tx):ByteArray->Int->Int:=l.foldl (fun F t=>zci Pk t.n F t.ws) F
theorem zkh(Pk:ByteArray->Bool)(n:Int)(F:ByteArray->Int->Int)(ws:List Wt)(x:Wt):zci Pk n F (ws++[x])=zic Pk n (zci Pk n F ws) x:=by simp[zci]
theorem zoh(Pk:ByteArray->Bool)(F:ByteArray->Int->Int)(l:List Tx)(t:Tx):wall Pk F (l++[t])=zci Pk t.n (wall Pk F l) t.ws:=by simp[wall]
def LowF(F:ByteArray->Int->Int):Prop:=∀s m,0<=F s m/\F s m<=65536
theorem LowF.zero:LowF (fun _ _=>0):=fun s m=>by simp
theorem LowF.upd{F:ByteArray->Int->Int}(h:LowF F){s:ByteArray}{m v:Int}(h0:0<=v)(h1:v<=65536):LowF (upd F s m v):=by
 intro s' m';unfold Go.Proofs.YtojjdnjfaelnfaaGreatDoor.Ch.upd;split
 .exact⟨h0,h1⟩
 exact h s' m'
theorem LowF.note{F:ByteArray->Int->Int}(h:LowF F){s:ByteArray}{k:Int}(h0:0<=k)(h1:k<=65536):LowF (zdx F s k):=by
 unfold zdx;split
 .exact h
 exact (h.upd (h s 0).1 (h s 0).2).upd h0 h1
theorem zahd{ts:List Tm}{i:Nat}(h:i<ts.length):txs (ts.take (i+1))=txs (ts.take i)++[(ts.getD i Tm.zero).tx]:=by rw[zhh ts i h,zhg];rfl
theorem zru(ao:Option Addr)(L cap:Nat)(ts:List Tm)(kb ke:Nat)(key0 en0:ByteArray)(w:World)(hT:TRs w ao ts)(hLe:L=ts.length)(hk:SBox w kb key0)(he:SBox w ke en0)(hnn:∀t∈ts,0<=t.n/\t.n<=65536/\t.L<=32/\∀x∈t.ws,x.key.size<=64)(hLs:L<=65536) :
  Calls prog 107 #[.slice ao L cap,.func (Fn.func 128) #[] #[.pointer (some ⟨kb,0,none⟩),.pointer (some ⟨ke,0,none⟩)]] w fun e w'=>∃b,e=.returned (.map (some b))/\w.heap.size<=b/\MapF w' b 9000000 (wall (inS key0 en0) (fun _ _=>0) (txs ts))/\Fr [] w w':=by
 have HL:Hid (L=ts.length):=hLe;have HNn:Hid (∀t∈ts,0<=t.n/\t.n<=65536/\t.L<=32/\∀x∈t.ws,x.key.size<=64):=hnn;have hmm:=@run_makeMap prog;have HI:Hid (∀W,Fr [] w W->TRs W ao ts):=fun W hf=>hT.keep hf;have HK:Hid (∀W,Fr [] w W->SBox W kb key0):=fun W hf=>hk.keep hf (by simp);have HKe:Hid (∀W,Fr [] w W->SBox W ke en0):=fun W hf=>he.keep hf (by simp);clear hk he;have hM0:=MapF.made w;have hF0:Fr [] w (w.alloc (.map #[] 0)):=Fr.alloc [] w _;clear hLe hnn hT;go_enter func107,ntmps107;go_wp2_with fail
 obtain⟨b,hb⟩:∃b,b=w.heap.size:=⟨_,rfl⟩;rw[<-hb]at hM0 ⊢
 have hbw:w.heap.size<=b:=by omega
 clear hb;go_loopw [13] (fun ii wr=>∃(i:Nat)(F:ByteArray->Int->Int),ii=.int .i64 i/\i<=L/\Hid (MapF wr b (64*i) F)/\Hid (LowF F)/\Hid (F=wall (inS key0 en0) (fun _ _=>0) (txs (ts.take i)))/\Fr [] w wr) (fun ii _=>L-(RowKit.intOf ii).toNat)
 case atStart=>exact⟨0,_,rfl,Nat.zero_le _,hM0,LowF.zero,by simp[Hid,wall,txs],hF0⟩
 obtain⟨i,F,rfl,hiL,HM,HLo,HFe,hFr⟩:=hrel;by_cases hi:i<L
 .have hi':i<ts.length:=by rw[<-HL.out];exact hi
  have hTr:=HI.out _ hFr;obtain⟨bb,off,rfl,_,hc⟩:=hTr.lies (by omega);have hx:=hc i hi';have HAt:Hid (∀W,Fr [] w W->(ts.getD i Tm.zero).at W):=fun W hf=>(HI.out W hf).each _ (zbw ts i hi');have hnx:=HNn.out _ (zbw ts i hi');have HTx:Hid (txs (ts.take (i+1))=txs (ts.take i)++[(ts.getD i Tm.zero).tx]):=zahd hi';obtain⟨x,hxx⟩:∃x,x=ts.getD i Tm.zero:=⟨_,rfl⟩;rw[<-hxx]at hx HAt hnx HTx
  clear hxx hc hTr;obtain⟨n,xo,M,cm,ws⟩:=x;obtain⟨c0,c1⟩:=hx;simp only at c0 c1 hnx;obtain⟨hn0,hn1,hM32,hks⟩:=hnx;have HKs:Hid (∀x∈ws,x.key.size<=64):=hks;have HMl:Hid (M=ws.length):=(HAt.out wr hFr).len;obtain⟨w1,HW1⟩:∃w1,Hid (wr.alloc (.cells #[.int .i64 n,.slice xo M cm] 108)=w1):=⟨_,rfl⟩;obtain⟨B7,HB7⟩:∃B7,Hid (B7=wr.heap.size):=⟨_,rfl⟩;have hF1:Fr [] wr w1:=by rw[<-HW1.out];exact Fr.alloc [] wr _
  have hbx:w1.heap[B7]? = some (.cells #[.int .i64 n,.slice xo M cm] 108 (0,0)):=by rw[<-HW1.out,HB7.out];exact heap_alloc_new wr _
  have hG1:=hFr.then hF1;have hbB:b≠B7:=by have:=HM.out.lt;rw[HB7.out];omega
  have HM1:Hid (MapF w1 b (64*i) F):=HM.out.keep hF1 (by simp);have HBx:Hid (∀W,Fr [b] w1 W->W.cell? ⟨B7,0,none⟩=some (.int .i64 n)/\W.cell? ⟨B7,1,none⟩=some (.slice xo M cm)):=fun W hf=>by
   have hb:=hf.keep hbx (by simp;exact fun h=>hbB h.symm);exact⟨by rw[crw hb];rfl,by rw[crw hb];rfl⟩
  obtain⟨k0,k1⟩:=HBx.out _ (Fr.refl _ _);clear hF1 hbx HM hks;go_upto_region 5 with fail
  rw[HW1.out,<-HB7.out];clear c0 c1 HW1 HB7 hFr;go_wp2_with fail
  go_loopw [20] (fun jj wr=>∃(j:Nat)(F2:ByteArray->Int->Int),jj=.int .i64 j/\j<=M/\Hid (MapF wr b (64*i+2*j) F2)/\Hid (LowF F2)/\Hid (F2=zci (inS key0 en0) n F (ws.take j))/\Fr [b] w1 wr) (fun jj _=>M-(RowKit.intOf jj).toNat)
  case atStart=>exact⟨0,F,rfl,Nat.zero_le _,HM1,HLo,by simp[Hid,zci],Fr.refl _ _⟩
  obtain⟨j,F2,rfl,hjM,HM2,HLo2,HFe2,hFr2⟩:=hrel;have hGr:Fr [] w wr:=hG1.on hFr2 (by intro x hx;simp at hx;omega);by_cases hj:j<M
  .have hj':j<ws.length:=by rw[<-HMl.out];exact hj
   have hat:TArg wr n xo M cm ws:=HAt.out _ hGr;obtain⟨b2,o2,rfl,_,hc2⟩:=hat.rs.lies (by omega);obtain⟨d0,d1,d2⟩:=hc2 j hj';have hkz:=HKs.out _ (zcj ws j hj');have HTk:Hid (ws.take (j+1)=ws.take j++[ws.getD j Wt.zero]):=zut ws j hj';obtain⟨y,hyy⟩:∃y,y=ws.getD j Wt.zero:=⟨_,rfl⟩;rw[<-hyy]at d0 d1 d2 HTk hkz
   clear hyy hc2 hat
   obtain⟨key,val,drop⟩:=y;simp only at d0 d1 d2 hkz;obtain⟨w3,HW3⟩:∃w3,Hid (wr.alloc (.cells #[.string key,.string val,.bool drop] 91)=w3):=⟨_,rfl⟩;obtain⟨B9,HB9⟩:∃B9,Hid (B9=wr.heap.size):=⟨_,rfl⟩;have hF3:Fr [] wr w3:=by rw[<-HW3.out];exact Fr.alloc [] wr _
   have hby:w3.heap[B9]? = some (.cells #[.string key,.string val,.bool drop] 91 (0,0)):=by rw[<-HW3.out,HB9.out];exact heap_alloc_new wr _
   have hG3:Fr [b] w1 w3:=hFr2.then (hF3.mono (by simp));have hGr3:Fr [] w w3:=hGr.then hF3;have HM3:Hid (MapF w3 b (64*i+2*j) F2):=HM2.out.keep hF3 (by simp);have e0:w3.cell? ⟨B9,0,none⟩=some (.string key):=by rw[crw hby];rfl
   obtain⟨R,HR⟩:∃R:Bool,Hid (R=(inS key0 en0) key):=⟨_,rfl⟩;have HAsk:Hid _:=zqy kb ke key0 en0 key R w3 (HK.out _ hGr3) (HKe.out _ hGr3) HR.out;clear HM2 hF3;go_upto_region 8 with fail
   rw[HW3.out,<-HB9.out];clear d0 d1 d2 HW3 HB9 hGr;go_wp2_with fail
   refine Calls.mono HAsk.out ?_;rintro e w4⟨rfl,hF4⟩;have hby4:=hF4.keep hby (by simp);have f0:w4.cell? ⟨B9,0,none⟩=some (.string key):=by rw[crw hby4];rfl
   have hG4:Fr [b] w1 w4:=hG3.then (hF4.mono (by simp));obtain⟨q0,q1⟩:=HBx.out _ hG4;have HM4:Hid (MapF w4 b (64*i+2*j) F2):=HM3.out.keep hF4 (by simp);clear HAsk hby hby4 e0 HM3 hG3 hF4 hGr3;cases R with
   |true=>
    have hlo:=HLo2.out key 0;have HNt:Hid _:=zacx b (64*i+2*j) F2 key n w4 HM4.out (by omega) hn0 (by omega) hlo.1 (by omega) (by omega);have HS:Hid (zdx F2 key n=zci (inS key0 en0) n F (ws.take (j+1))):=by
     show _=_;rw[HTk.out,zkh,<-HFe2.out];unfold zic;rw[if_pos HR.out.symm]
    clear hlo HM4;go_wp2_with fail
    refine Calls.mono HNt.out ?_;rintro e w5⟨rfl,hM5,hF5⟩;have HM5:Hid (MapF w5 b (64*i+2*(j+1)) (zdx F2 key n)):=hM5.mono (by omega);have hG5:=hG4.then hF5;clear hM5 hF5 HNt hG4 f0 q0 q1;go_wp2;go_roundw;case rel=>exact⟨j+1,_,by simp,by omega,HM5,HLo2.out.note hn0 (by omega),HS,hG5⟩
    case measure=>simp[RowKit.intOf];omega
   |false=>
    have HS:Hid (F2=zci (inS key0 en0) n F (ws.take (j+1))):=by
     show _=_;rw[HTk.out,zkh,<-HFe2.out];unfold zic;rw[if_neg (fun h=>Bool.noConfusion (HR.out.trans h))]
    have HM5:Hid (MapF w4 b (64*i+2*(j+1)) F2):=HM4.out.mono (by omega);clear HM4 f0 q0 q1;go_wp2;go_roundw;case rel=>exact⟨j+1,F2,by simp,by omega,HM5,HLo2,HS,hG4⟩
    case measure=>simp[RowKit.intOf];omega
  have HM5:Hid (MapF wr b (64*(i+1)) F2):=HM2.out.mono (by omega);have HS:Hid (F2=wall (inS key0 en0) (fun _ _=>0) (txs (ts.take (i+1)))):=by
   show _=_;rw[HTx.out,zoh,<-HFe.out,HFe2.out,List.take_of_length_le (by rw[<-HMl.out];omega)];rfl
  clear HM2;go_wp2;go_roundw;case rel=>exact⟨i+1,F2,by simp,by omega,HM5,HLo2,HS,hGr⟩
  case measure=>simp[RowKit.intOf];omega
 have HS:Hid (F=wall (inS key0 en0) (fun _ _=>0) (txs ts)):=by
  show _=_;rw[HFe.out,List.take_of_length_le (by rw[<-HL.out];omega)]
 have HM5:Hid (MapF wr b 9000000 F):=HM.out.mono (by omega);clear HM;go_wp2;go_ret;exact⟨b,rfl,hbw,by rw[<-HS.out];exact HM5.out,hFr⟩
def Wrt(l:List Tx)(n:Nat)(s:ByteArray):Prop:=∃x∈(l.getD (n-1) Tx.zero).ws,x.key=s
def Prv(l:List Tx)(i n:Nat)(s:ByteArray)(p:Int):Prop:=
 (p=0/\∀m,i<=m->m<n->¬Wrt l m s)\/∃q:Nat,p=(q:Int)/\i<=q/\q<n/\Wrt l q s/\∀m,q<m->m<n->¬Wrt l m s
theorem Prv.le{l:List Tx}{i n:Nat}{s:ByteArray}{p:Int}(h:Prv l i n s p)(h0:0<n):0<=p/\p<(n:Int):=by
 rcases h with⟨rfl,_⟩|⟨q,rfl,_,h,_⟩<;>omega
theorem Prv.skip{l:List Tx}{i n:Nat}{s:ByteArray}{p:Int}(h:Prv l i n s p)(hn:¬Wrt l n s):Prv l i (n+1) s p:=by
 rcases h with⟨rfl,h⟩|⟨a,rfl,h1,h2,h3,h4⟩
 .refine Or.inl ⟨rfl,fun m h1 h2=> ?_⟩;by_cases e:m=n
  .subst e;exact hn
  exact h m h1 (by omega)
 refine Or.inr ⟨a,rfl,h1,by omega,h3,fun m k1 k2=> ?_⟩;by_cases e:m=n
 .subst e;exact hn
 exact h4 m k1 (by omega)
theorem Prv.hit{l:List Tx}{i n:Nat}{s:ByteArray}(hi:i<=n)(hn:Wrt l n s):Prv l i (n+1) s (n:Int):=
 Or.inr ⟨n,rfl,hi,by omega,hn,fun m k1 k2=>by omega⟩
structure Mid(Pk:ByteArray->Bool)(n:Int)(F G:ByteArray->Int->Int)(ws:List Wt):Prop where
 zero:∀s,Pk s=true->G s 0=if ∃x∈ws,x.key=s then n else F s 0
 own:∀s,Pk s=true->(∃x∈ws,x.key=s)->G s n=F s 0
 rest:∀s m,m≠0->m≠n->G s m=F s m
theorem Mid.nil(Pk:ByteArray->Bool)(n:Int)(F:ByteArray->Int->Int):Mid Pk n F F []:=⟨fun s _=>by simp,fun s _ h=>by simp at h,fun _ _ _ _=>rfl⟩
theorem Mid.step{Pk:ByteArray->Bool}{n:Int}{F G:ByteArray->Int->Int}{ws:List Wt}(h:Mid Pk n F G ws)(hn:n≠0)(hF:∀s,Pk s=true->F s 0≠n)(x:Wt):Mid Pk n F (zic Pk n G x) (ws++[x]):=by
 unfold zic;have hmem:∀s,(∃y∈ws++[x],y.key=s)↔(∃y∈ws,y.key=s)\/x.key=s:=by
  intro s;simp only[List.mem_append,List.mem_singleton];constructor
  .rintro⟨y,hy|rfl,e⟩
   .exact Or.inl ⟨y,hy,e⟩
   exact Or.inr e
  rintro (⟨y,hy,e⟩|e)
  .exact⟨y,Or.inl hy,e⟩
  exact⟨x,Or.inr rfl,e⟩
 by_cases hp:Pk x.key=true
 .rw[if_pos hp];unfold zdx;by_cases hin:∃y∈ws,y.key=x.key
  .have e:G x.key 0=n:=by rw[h.zero _ hp,if_pos hin]
   rw[if_pos e];have hsame:∀s,(∃y∈ws++[x],y.key=s)↔ ∃y∈ws,y.key=s:=by
    intro s;rw[hmem];constructor
    .rintro (h|rfl)
     .exact h
     exact hin
    exact Or.inl
   exact⟨fun s hs=>by rw[h.zero s hs];simp only[hsame],fun s hs hw=>h.own s hs ((hsame s).1 hw),h.rest⟩
  have e0:G x.key 0=F x.key 0:=by rw[h.zero _ hp,if_neg hin]
  rw[if_neg (by rw[e0];exact hF _ hp),e0];refine⟨fun s hs=> ?_,fun s hs hw=> ?_,fun s m h0 h1=> ?_⟩
  .by_cases hsx:s=x.key
   .subst hsx;rw[if_pos ((hmem _).2 (Or.inr rfl))];unfold upd;rw[if_pos ⟨rfl,rfl⟩]
   have:upd (upd G x.key n (F x.key 0)) x.key 0 n s 0=G s 0:=by
    unfold upd;rw[if_neg (fun h=>hsx h.1),if_neg (fun h=>hsx h.1)]
   rw[this,h.zero s hs];simp only[hmem];have hne:¬x.key=s:=fun e=>hsx e.symm;simp only[hne,or_false]
  .by_cases hsx:s=x.key
   .subst hsx;unfold upd;rw[if_neg (fun h=>hn h.2),if_pos ⟨rfl,rfl⟩]
   have:upd (upd G x.key n (F x.key 0)) x.key 0 n s n=G s n:=by
    unfold upd;rw[if_neg (fun h=>hsx h.1),if_neg (fun h=>hsx h.1)]
   rw[this];rcases (hmem s).1 hw with hw|hw
   .exact h.own s hs hw
   exact absurd hw.symm hsx
  unfold upd;rw[if_neg (fun h=>h0 h.2),if_neg (fun h=>h1 h.2)];exact h.rest s m h0 h1
 rw[if_neg hp];refine⟨fun s hs=> ?_,fun s hs hw=> ?_,h.rest⟩
 .rw[h.zero s hs];have hne:¬x.key=s:=fun e=>hp (by rw[e];exact hs);simp only[hmem,hne,or_false]
 rcases (hmem s).1 hw with hw|hw
 .exact h.own s hs hw
 exact absurd (by rw[hw];exact hs) hp
theorem zahe{Pk:ByteArray->Bool}{n:Int}{F:ByteArray->Int->Int}(hn:n≠0)(hF:∀s,Pk s=true->F s 0≠n)(ws:List Wt):Mid Pk n F (zci Pk n F ws) ws:=by
 have key:∀(vs us:List Wt)(G:ByteArray->Int->Int),Mid Pk n F G us->Mid Pk n F (zci Pk n G vs) (us++vs):=by
  intro vs;induction vs with
  |nil=>intro us G h;simpa[zci]using h
  |cons x r ih=>
   intro us G h;have:=ih (us++[x]) (zic Pk n G x) (h.step hn hF x);rw[List.append_assoc]at this
   exact this
 simpa using key ws [] F (Mid.nil Pk n F)
def part(l:List Tx)(i c:Nat):List Tx:=(l.drop (i-1)).take c
theorem zzt{l:List Tx}{i c:Nat}(hi:0<i)(h:i+c<=l.length):part l i (c+1)=part l i c++[l.getD (i+c-1) Tx.zero]:=by
 unfold part;rw[List.take_add_one,List.getElem?_drop,show i-1+c=i+c-1 by omega,List.getElem?_eq_getElem (by omega),List.getD,List.getElem?_eq_getElem (by omega)];rfl
theorem zzu{Pk:ByteArray->Bool}{l:List Tx}(hok:okL 1 l){i:Nat}(hi:0<i):∀c,i+c<=l.length+1 ->
  (∀s,Pk s=true->Prv l i (i+c) s (wall Pk (fun _ _=>0) (part l i c) s 0))/\∀(m:Nat) s,i<=m->m<i+c->Pk s=true->Wrt l m s->Prv l i m s (wall Pk (fun _ _=>0) (part l i c) s (m:Int)):=by
 intro c;induction c with
 |zero=>
  intro _;refine⟨fun s _=>Or.inl ⟨by simp[part,wall],fun m h1 h2=>by omega⟩,fun m s h1 h2=>by omega⟩
 |succ c ih=>
  intro hc;obtain⟨h0,h1⟩:=ih (by omega);obtain⟨hx,hn⟩:=zea hok (i+c-1) (by omega);have hn':(l.getD (i+c-1) Tx.zero).n=((i+c:Nat):Int):=by rw[hn];congr 1;omega
  obtain⟨t,ht⟩:∃t,t=l.getD (i+c-1) Tx.zero:=⟨_,rfl⟩;have hw:∀s,Wrt l (i+c) s↔ ∃x∈t.ws,x.key=s:=by intro s;rw[ht];rfl
  rw[zzt hi (by omega),<-ht,zoh];rw[<-ht]at hn'
  rw[hn'];have hM:Mid Pk ((i+c:Nat):Int) (wall Pk (fun _ _=>0) (part l i c)) (zci Pk ((i+c:Nat):Int) (wall Pk (fun _ _=>0) (part l i c)) t.ws) t.ws:=
   zahe (by omega) (fun s hs=>by have:=(h0 s hs).le (by omega);omega) t.ws
  refine⟨fun s hs=> ?_,fun m s k1 k2 hs hwm=> ?_⟩
  .rw[hM.zero s hs];by_cases hin:∃x∈t.ws,x.key=s
   .rw[if_pos hin];exact Prv.hit (n:=i+c) (Nat.le_add_right i c) ((hw s).2 hin)
   rw[if_neg hin];exact Prv.skip (n:=i+c) (h0 s hs) (fun h=>hin ((hw s).1 h))
  by_cases e:m=i+c
  .subst e;rw[hM.own s hs ((hw s).1 hwm)];exact h0 s hs
  have k3:m<i+c+1:=k2;have a0:(m:Int)≠0:=by omega
  have a1:(m:Int)≠((i+c:Nat):Int):=by omega
  have a2:m<i+c:=by omega
  rw[hM.rest s m a0 a1];exact h1 m s k1 a2 hs hwm
def Nbr(l:List Tx)(m n:Nat):Prop:=∃s,Wrt l m s/\Wrt l n s
inductive Rch(l:List Tx)(i:Nat):Nat->Prop
 |base:Rch l i i
 |step {m n:Nat}:Rch l i m->m<n->Nbr l m n->Rch l i n
theorem Rch.ge{l:List Tx}{i n:Nat}(h:Rch l i n):i<=n:=by
 induction h with
 |base=>exact Nat.le_refl _
 |step _ h1 _ ih=>omega
theorem Rch.inv{l:List Tx}{i n:Nat}(h:Rch l i n)(hn:i<n):∃m,Rch l i m/\m<n/\Nbr l m n:=by
 cases h with
 |base=>omega
 |step h1 h2 h3=>exact⟨_,h1,h2,h3⟩
theorem Rch.by_last{l:List Tx}{i n:Nat}(hi:0<i)(hn:i<n)(P:ByteArray->Int)(hP:∀s,Wrt l n s->Prv l i n s (P s)):Rch l i n↔ ∃x∈(l.getD (n-1) Tx.zero).ws,∃q:Nat,P x.key=(q:Int)/\0<q/\Rch l i q:=by
 constructor
 .intro h;obtain⟨m,h1,h2,s,h3,h4⟩:=h.inv hn;obtain⟨x,hx,rfl⟩:=h4;have hp:=hP x.key ⟨x,hx,rfl⟩;have hm:=h1.ge;rcases hp with⟨_,hp⟩|⟨q,hq,k1,k2,k3,k4⟩
  .exact absurd h3 (hp m hm h2)
  refine⟨x,hx,q,hq,by omega,?_⟩;by_cases e:q=m
  .rw[e];exact h1
  have hmq:m<q:=by
   by_cases h:m<q
   .exact h
   exact absurd h3 (k4 m (by omega) h2)
  exact Rch.step h1 hmq ⟨x.key,h3,k3⟩
 rintro⟨x,hx,q,hq,h0,h⟩;have hw:Wrt l n x.key:=⟨x,hx,rfl⟩;rcases hP x.key hw with⟨e,_⟩|⟨q',e,k1,k2,k3,_⟩
 .rw[hq]at e;omega
 have:q=q':=by rw[hq]at e;omega
 subst this;exact Rch.step h k2 ⟨x.key,k3,hw⟩
structure CW(W:World)(B10 B9 g b J:Nat)(F:ByteArray->Int->Int)(rs:List Bool):Prop where
 x10:W.heap[B10]? = some (.cells #[.slice (some ⟨g,0,none⟩) J J] 189 (0,0))
 x9:W.heap[B9]? = some (.cells #[.map (some b)] 184 (0,0))
 row:W.heap[g]? = some (.cells (rs.map Value.bool).toArray 4 (0,0))
 map:MapF W b 9000000 F
 len:rs.length=J
theorem CW.keep{S:List Nat}{W W':World}{B10 B9 g b J:Nat}{F:ByteArray->Int->Int}{rs:List Bool}(h:CW W B10 B9 g b J F rs)(hf:Fr S W W')(h1:B10∉S)(h2:B9∉S)(h3:g∉S)(h4:b∉S):CW W' B10 B9 g b J F rs:=
 ⟨hf.keep h.x10 h1,hf.keep h.x9 h2,hf.keep h.row h3,h.map.keep hf h4,h.len⟩
theorem CW.quiet{W W':World}{B10 B9 g b J:Nat}{F:ByteArray->Int->Int}{rs:List Bool}(h:CW W B10 B9 g b J F rs)(hf:Fr [] W W'):CW W' B10 B9 g b J F rs:=h.keep hf (by simp) (by simp) (by simp) (by simp)
theorem CW.cell{W:World}{B10 B9 g b J:Nat}{F:ByteArray->Int->Int}{rs:List Bool}(h:CW W B10 B9 g b J F rs)(q:Nat)(hq:q<J):W.cell? ⟨g,q,none⟩=some (.bool (rs.getD q false)):=by
 rw[crw h.row];have hl:q<rs.length:=by rw[h.len];exact hq
 simp[List.getD,hl]
theorem zacy(B10 B9 B12 g b J q:Nat)(F:ByteArray->Int->Int)(rs:List Bool)(n:Int)(xo:Option Addr)(M cm:Nat)(key val:ByteArray)(drop R:Bool)(W:World)(h:CW W B10 B9 g b J F rs)(hx:W.heap[B12]? = some (.cells #[.int .i64 n,.slice xo M cm] 108 (0,0)))(hq:F key n=(q:Int))(hqJ:q<J)(hJ:J<=65537)(hR:R=rs.getD q false)(hks:key.size<=64)(hn0:0<=n)(hn1:n<=65536) :
  Calls prog 110 #[.agg #[.string key,.string val,.bool drop],.pointer (some ⟨B10,0,none⟩),.pointer (some ⟨B9,0,none⟩),.pointer (some ⟨B12,0,none⟩)] W fun e w'=>e=.returned (.bool R)/\Fr [] W w':=by
 obtain⟨w0,HW0⟩:∃w0,Hid (W.alloc (.cells #[.string key,.string val,.bool drop] 91)=w0):=⟨_,rfl⟩;have hF0:Fr [] W w0:=by rw[<-HW0.out];exact Fr.alloc [] W _
 have hb0:w0.heap[W.heap.size]? = some (.cells #[.string key,.string val,.bool drop] 91 (0,0)):=by rw[<-HW0.out];exact heap_alloc_new W _
 have h0:=h.quiet hF0;have hx0:=hF0.keep hx (by simp);have c0:w0.cell? ⟨W.heap.size,0,none⟩=some (.string key):=by rw[crw hb0];rfl
 have c1:w0.cell? ⟨B10,0,none⟩=some (.slice (some ⟨g,0,none⟩) J J):=by rw[crw h0.x10];rfl
 have c2:w0.cell? ⟨B9,0,none⟩=some (.map (some b)):=by rw[crw h0.x9];rfl
 have c3:w0.cell? ⟨B12,0,none⟩=some (.int .i64 n):=by rw[crw hx0];rfl
 have c4:=h0.cell q hqJ;rw[<-hR]at c4
 have hlk:∀k,(Instr.lookup 184 (.map (some b)) (.agg #[.string key,.int .i64 n]) false).run prog (w0.drewN k)=.ok (.int .i64 (q:Int)) (w0.drewN k):=fun k=>by
  have:=(h0.map.keep (Fr.drewN [] w0 k) (by simp)).look key n (by unfold maxLen;omega) (zjw (by omega) (by omega));rw[hq]at this
  exact this
 have hl1:(Instr.lookup 184 (.map (some b)) (.agg #[.string key,.int .i64 n]) false).run prog w0=.ok (.int .i64 (q:Int)) w0:=hlk 0;clear h h0 hx hx0 hb0 hR hq;go_enter func110,ntmps110;go_upto_region 1 with fail
 rw[HW0.out]
 go_quiet (fail)
 go_wp2;go_ret;exact⟨rfl,hF0.then (Fr.drewN _ _ _)⟩
def Hit(F:ByteArray->Int->Int)(n:Int)(rs:List Bool)(x:Wt):Bool:=rs.getD (F x.key n).toNat false
theorem zwn(B10 B9 B12 g b J:Nat)(F:ByteArray->Int->Int)(rs:List Bool)(n:Int)(xo:Option Addr)(M cm:Nat)(ws:List Wt)(W:World)(h:CW W B10 B9 g b J F rs)(hx:W.heap[B12]? = some (.cells #[.int .i64 n,.slice xo M cm] 108 (0,0)))(hat:TArg W n xo M cm ws)(hF:∀x∈ws,0<=F x.key n/\F x.key n<(J:Int))(hJ:J<=65537)(hks:∀x∈ws,x.key.size<=64)(hn0:0<=n)(hn1:n<=65536)(hM:M<=32) :
  Calls prog 129 #[.slice xo M cm,.func (Fn.func 110) #[] #[.pointer (some ⟨B10,0,none⟩),.pointer (some ⟨B9,0,none⟩),.pointer (some ⟨B12,0,none⟩)]] W fun e w'=>∃r:Int,e=.returned (.int .i64 r)/\(0<=r↔ ∃x∈ws,Hit F n rs x=true)/\ -1<=r/\r<=32/\Fr [] W w':=by
 have HL:Hid (M=ws.length):=hat.len;have HRs:Hid (∀V,Fr [] W V->WRs V xo ws):=fun V hf=>hat.rs.keep hf;have HC:Hid (∀V,Fr [] W V->CW V B10 B9 g b J F rs):=fun V hf=>h.quiet hf;have HX:Hid (∀V,Fr [] W V->V.heap[B12]? = some (.cells #[.int .i64 n,.slice xo M cm] 108 (0,0))):=fun V hf=>hf.keep hx (by simp);have HF:Hid (∀x∈ws,0<=F x.key n/\F x.key n<(J:Int)):=hF;have HK:Hid (∀x∈ws,x.key.size<=64):=hks;clear h hx hat hF hks;go_enter func129,ntmps129;go_wp2_with fail
 go_loopw [8] (fun ii wr=>∃(i:Nat),ii=.int .i64 i/\i<=M/\Hid (∀j,j<i->Hit F n rs (ws.getD j Wt.zero)=false)/\Fr [] W wr) (fun ii _=>M-(RowKit.intOf ii).toNat)
 case atStart=>exact⟨0,rfl,Nat.zero_le _,fun j hj=>by omega,Fr.refl _ _⟩
 obtain⟨i,rfl,hiM,HE,hFr⟩:=hrel;by_cases hi:i<M
 .have hi':i<ws.length:=by rw[<-HL.out];exact hi
  obtain⟨b2,o2,e2,_,hc2⟩:=(HRs.out _ hFr).lies (by omega);obtain⟨d0,d1,d2⟩:=hc2 i hi';have hm:=zcj ws i hi';have hkz:=HK.out _ hm;have hfz:=HF.out _ hm;have HMem:Hid (ws.getD i Wt.zero∈ws):=hm;obtain⟨y,hyy⟩:∃y,y=ws.getD i Wt.zero:=⟨_,rfl⟩;rw[<-hyy]at d0 d1 d2 hkz hfz
  have HY:Hid (y=ws.getD i Wt.zero):=hyy;clear hyy hc2 hm;obtain⟨key,val,drop⟩:=y;simp only at d0 d1 d2 hkz hfz;obtain⟨q,hq⟩:∃q:Nat,F key n=(q:Int):=⟨(F key n).toNat,by omega⟩;obtain⟨R,hR⟩:∃R:Bool,R=rs.getD q false:=⟨_,rfl⟩;have HR:Hid (Hit F n rs (ws.getD i Wt.zero)=R):=by
   show Hit _ _ _ _=_;rw[<-HY.out,hR];unfold Hit;simp only;rw[hq,Int.toNat_natCast]
  have HCl:Hid _:=zacy B10 B9 B12 g b J q F rs n xo M cm key val drop R wr (HC.out _ hFr) (HX.out _ hFr) hq (by omega) hJ hR hkz hn0 hn1;clear hq hR hfz;subst e2;go_wp2_with fail
  refine Calls.mono HCl.out ?_;rintro e w2⟨rfl,hF2⟩;have hG2:=hFr.then hF2;clear HCl hF2 d0 d1 d2;cases R with
  |true=>
   have HRes:Hid (0<=(i:Int)↔ ∃x∈ws,Hit F n rs x=true):=⟨fun _=>⟨_,HMem.out,HR.out⟩,fun _=>by omega⟩;go_wp2;go_ret;exact⟨i,rfl,HRes.out,by omega,by omega,hG2⟩
  |false=>
   have HE2:Hid (∀j,j<i+1->Hit F n rs (ws.getD j Wt.zero)=false):=by
    intro j hj;by_cases hji:j=i
    .subst hji;exact HR.out
    exact HE.out j (by omega)
   go_wp2;go_roundw;case rel=>exact⟨i+1,by simp,by omega,HE2,hG2⟩
   case measure=>simp[RowKit.intOf];omega
 have HRes:Hid (0<=(-1:Int)↔ ∃x∈ws,Hit F n rs x=true):=by
  refine⟨fun h=>by omega,?_⟩;rintro⟨x,hx,hh⟩;obtain⟨j,hj,rfl⟩:=List.getElem_of_mem hx;have:=HE.out j (by have:=HL.out;omega);simp only[List.getD,List.getElem?_eq_getElem hj,Option.getD_some]at this;rw[this]at hh
  cases hh
 go_wp2;go_ret;exact⟨-1,rfl,HRes.out,by omega,by omega,hFr⟩
theorem zoo(B10 B9 B12 g b J:Nat)(F:ByteArray->Int->Int)(rs:List Bool)(n:Int)(xo:Option Addr)(M cm:Nat)(ws:List Wt)(R:Bool)(W:World)(h:CW W B10 B9 g b J F rs)(hx:W.heap[B12]? = some (.cells #[.int .i64 n,.slice xo M cm] 108 (0,0)))(hat:TArg W n xo M cm ws)(hF:∀x∈ws,0<=F x.key n/\F x.key n<(J:Int))(hJ:J<=65537)(hks:∀x∈ws,x.key.size<=64)(hn0:0<=n)(hn1:n<=65536)(hM:M<=32)(hR:R=true↔ ∃x∈ws,Hit F n rs x=true) :
  Calls prog 109 #[.slice xo M cm,.func (Fn.func 110) #[] #[.pointer (some ⟨B10,0,none⟩),.pointer (some ⟨B9,0,none⟩),.pointer (some ⟨B12,0,none⟩)]] W fun e w'=>e=.returned (.bool R)/\Fr [] W w':=by
 have HCl:Hid _:=zwn B10 B9 B12 g b J F rs n xo M cm ws W h hx hat hF hJ hks hn0 hn1 hM;have HR:Hid (R=true↔ ∃x∈ws,Hit F n rs x=true):=hR;clear h hx hat hF hR hks;go_enter func109,ntmps109;go_wp2_with fail
 refine Calls.mono HCl.out ?_;rintro e w1⟨r,rfl,hr,hr0,hr1,hF1⟩;have hRr:R=decide (0<=r):=by
  rw[Bool.eq_iff_iff,HR.out,<-hr];simp
 have HRr:Hid (R=decide (0<=r)):=hRr;clear hRr hr HCl;go_wp2;go_ret;exact⟨by rw[HRr.out];rfl,hF1⟩
def ChTold(l:List Tx)(i j:Int)(R:Bool)(e:Nat):Prop:=
 (Bad 1 l e/\e≠0/\R=false)\/(okL 1 l/\¬(1<=i/\i<j/\j<=(l.length:Int))/\R=false/\e=1)\/(okL 1 l/\(1<=i/\i<j/\j<=(l.length:Int))/\e=0/\(R=true↔Rch l i.toNat j.toNat))
theorem ChTold.ex(l:List Tx)(i j:Int):∃R e,ChTold l i j R e:=by
 obtain⟨c,hc⟩:=Bad.ex l 1;by_cases h0:c=0
 .have hok:=hc.ok.1 h0;by_cases hb:1<=i/\i<j/\j<=(l.length:Int)
  .by_cases hr:Rch l i.toNat j.toNat
   .exact⟨true,0,Or.inr (Or.inr ⟨hok,hb,rfl,by simp[hr]⟩)⟩
   exact⟨false,0,Or.inr (Or.inr ⟨hok,hb,rfl,by simp[hr]⟩)⟩
  exact⟨false,1,Or.inr (Or.inl ⟨hok,hb,rfl,rfl⟩)⟩
 exact⟨false,c,Or.inl ⟨hc,h0,rfl⟩⟩
theorem _root_.Go.Proofs.YtojjdnjfaelnfaaGreatDoor.TRs.drop{w:World}{b off:Nat}{ts:List Tm}(h:TRs w (some ⟨b,off,none⟩) ts)(k:Nat):TRs w (some ⟨b,off+k*2,none⟩) (ts.drop k):=by
 refine⟨fun h0=> ?_,by have:=h.few;rw[List.length_drop];omega,fun t ht=>h.each t (List.mem_of_mem_drop ht)⟩;rw[List.length_drop]at h0
 obtain⟨b',off',e,hb,hc⟩:=h.lies (by omega);cases e;refine⟨b,off+k*2,rfl,hb,fun i hi=> ?_⟩;rw[List.length_drop]at hi
 have:=hc (k+i) (by omega);have e:(ts.drop k).getD i Tm.zero=ts.getD (k+i) Tm.zero:=by simp[List.getD,List.getElem?_drop]
 rw[e];have e2:off+(k+i)*2=off+k*2+i*2:=by rw[Nat.add_mul];omega
 rw[e2]at this
 exact this
theorem zzv:prog.underlying 24=some (.slice (prog.elem 24)):=by kernel_rfl
theorem zajl:prog.elem 24=108:=by kernel_rfl
theorem zakq(w:World):(sizeOf 108).run prog w=.ok 2 w:=by kernel_rfl
theorem zkv(ab aoff L cap K J0:Nat)(k:Int)(hk:k=(K:Int))(h1:K<=J0)(h2:J0<=cap)(h3:¬cap=K)(w:World):(Instr.slice 24 (.slice (some ⟨ab,aoff,none⟩) L cap) (some (.int .i64 k)) (some (.int .i64 (J0:Int))) none).run prog w=.ok (.slice (some ⟨ab,aoff+K*2,none⟩) (J0-K) (cap-K)) w:=by
 subst hk;rw[run_slice_lh w 24 _ _ _ zzv .i64 .i64 (K:Int) (J0:Int) (by omega) (by omega) (by omega),zajl,zakq];simp[Result.andThen,sliced,h3,Addr.add]
theorem zma(ab aoff L cap K J0:Nat)(k:Int)(hk:k=(K:Int))(h1:K<=J0)(h2:J0<=cap)(h3:¬cap=K)(w:World):(Instr.sliceAt 24 (.slice (some ⟨ab,aoff,none⟩) L cap) (some (.int .i64 k)) (some (.int .i64 (J0:Int))) none).run prog w=.ok (.slice (some ⟨ab,aoff+K*2,none⟩) (J0-K) (cap-K)) w:=by
 rw[run_sliceAt_slice w 24 _ _ _ _ zzv];exact zkv ab aoff L cap K J0 k hk h1 h2 h3 w
theorem zop{w:World}{b:Nat}{cs:Array Value}{t:TypeId}(h:w.heap[b]? = some (.cells cs t (0,0)))(o:Nat):w.frozen? ⟨b,o,none⟩=false:=by simp[World.frozen?,h]
theorem zid{w:World}{b:Nat}{v:Value}{t:TypeId}(h:w.heap[b]? = some (.cells #[v] t (0,0))):w.cell? ⟨b,0,none⟩=some v:=by simp[World.cell?,h]
theorem zajm{p:Prop}(h:p):Hid p:=h
theorem zahf{w1 w2:World}{o:Obj}(h:w2.heap[w1.drew.heap.size]? = some o):w2.heap[w1.heap.size]? = some o:=h
theorem zacz{w:World}{b:Nat}{v x:Value}{t:TypeId}(h:w.heap[b]? = some (.cells #[v] t (0,0))):(w.setCell ⟨b,0,none⟩ x).heap[b]? = some (.cells #[x] t (0,0)):=by
 have hlt:=lt_of_block h;have h':w.heap[b]=.cells #[v] t (0,0):=by simpa[Array.getElem?_eq_getElem hlt]using h
 show (w.heap.modify b _)[b]? = _;rw[Array.getElem?_eq_getElem (by simpa using hlt),Array.getElem_modify_self,h'];rfl
theorem MapF.ne{w:World}{b n k:Nat}{F:ByteArray->Int->Int}{cs:Array Value}{t:TypeId}{f:Nat×Nat}(h:MapF w b n F)(hk:w.heap[k]? = some (.cells cs t f)):b≠k:=by
 rintro rfl;obtain⟨D,⟨es,clock,hb,_⟩,_⟩:=h;rw[hk]at hb
 cases hb
structure Cut6(w wx:World)(B9 b:Nat)(F:ByteArray->Int->Int):Prop where
 x9:wx.heap[B9]? = some (.cells #[.map (some b)] 184 (0,0))
 map:MapF wx b 9000000 F
 n9:w.heap.size<=B9
 nb:w.heap.size<=b
 fr:Fr [] w wx
theorem Cut6.set{w w3:World}{k b:Nat}{F:ByteArray->Int->Int}(hd:w3.heap[k]? = some (.cells #[.map none] 184 (0,0)))(hM:MapF w3 b 9000000 F)(hk:w.heap.size<=k)(hb:w.heap.size<=b)(hf:Fr [] w w3):Cut6 w (w3.setCell ⟨k,0,none⟩ (.map (some b))) k b F:=by
 have hs:Fr [k] w3 (w3.setCell ⟨k,0,none⟩ (.map (some b))):=Fr.set _ _ _ (by simp);exact⟨zacz hd,hM.keep hs (by simp;exact hM.ne hd),hk,hb,hf.on hs (by intro x hx;simp at hx;omega)⟩
theorem Cut6.alloc{w w3:World}{b:Nat}{F:ByteArray->Int->Int}(hM:MapF w3 b 9000000 F)(hb:w.heap.size<=b)(hf:Fr [] w w3):Cut6 w (w3.alloc (.cells #[.map (some b)] 184)) w3.heap.size b F:=
 ⟨heap_alloc_new w3 _,hM.keep (Fr.alloc [] w3 _) (by simp),hf.size,hb,hf.then (Fr.alloc [] w3 _)⟩
theorem zajn:(prog.info? 4).map (fun i=>(i.zero,i.size,i.bytes))=some (some (.bool false),1,1):=by kernel_rfl
theorem zada:prog.underlying 189=some (.slice 4):=by kernel_rfl
theorem zwo(n:Nat):(madeCells #[Value.bool false] n).toList=(List.replicate n false).map Value.bool:=by
 apply List.ext_getElem?;intro i;by_cases h:i<n
 .simp[madeCells,h,Nat.mod_one]
 simp[madeCells,h]
theorem zwp{w:World}{g n:Nat}{xs:List Value}(h:w.ownsRow 0 4 1 (.slice (some ⟨g,0,none⟩) n n) n xs):w.heap[g]? = some (.cells xs.toArray 4 (0,0)):=by
 have hl:=h.1;rcases h.2 with⟨hh,_⟩|⟨g',cap',cur,hh,_,hg,_,_,hcs,ht⟩
 .cases hh
 cases hh;rw[hg]
 congr 2
 rw[<-Array.toList_inj];simp only;rw[<-ht,List.take_of_length_le (by simp[hcs])]
theorem zadb{w:World}{g j:Nat}{rs:List Bool}(x:Bool)(h:w.heap[g]? = some (.cells (rs.map Value.bool).toArray 4 (0,0))):(w.setCell ⟨g,j,none⟩ (.bool x)).heap[g]? = some (.cells ((rs.set j x).map Value.bool).toArray 4 (0,0)):=by
 have hlt:=lt_of_block h;have h':w.heap[g]=.cells (rs.map Value.bool).toArray 4 (0,0):=by simpa[Array.getElem?_eq_getElem hlt]using h
 show (w.heap.modify g _)[g]? = _;rw[Array.getElem?_eq_getElem (by simpa using hlt),Array.getElem_modify_self,h'];simp[List.map_set]
theorem CW.put{W:World}{B10 B9 g b J:Nat}{F:ByteArray->Int->Int}{rs:List Bool}(h:CW W B10 B9 g b J F rs)(j:Nat)(x:Bool):CW (W.setCell ⟨g,j,none⟩ (.bool x)) B10 B9 g b J F (rs.set j x):=by
 have hs:Fr [g] W (W.setCell ⟨g,j,none⟩ (.bool x)):=Fr.set _ _ _ (by simp);have n1:B10≠g:=by
  rintro rfl;have:=h.x10;rw[h.row]at this
  simp at this
 have n2:B9≠g:=by
  rintro rfl;have:=h.x9;rw[h.row]at this
  simp at this
 exact⟨hs.keep h.x10 (by simpa using n1),hs.keep h.x9 (by simpa using n2),zadb x h.row,h.map.keep hs (by simpa using h.map.ne h.row),by simpa using h.len⟩
theorem CW.n10{W:World}{B10 B9 g b J:Nat}{F:ByteArray->Int->Int}{rs:List Bool}(h:CW W B10 B9 g b J F rs):B10≠g:=by
 rintro rfl;have:=h.x10;rw[h.row]at this
 simp at this
theorem CW.free{W:World}{B10 B9 g b J:Nat}{F:ByteArray->Int->Int}{rs:List Bool}(h:CW W B10 B9 g b J F rs)(j:Nat):W.frozen? ⟨g,j,none⟩=false:=by simp[World.frozen?,h.row]
theorem zahg(J k:Nat)(h:k<J):((List.replicate J false).set k true).getD k false=true:=by
 rw[List.getD_eq_getElem?_getD,List.getElem?_set_self (by simpa using h)];rfl
theorem zadc(J k m:Nat)(h:m≠k):((List.replicate J false).set k true).getD m false=false:=by
 rw[List.getD_eq_getElem?_getD,List.getElem?_set_ne (Ne.symm h)];by_cases hm:m<J
 .rw[List.getElem?_replicate,if_pos hm];rfl
 rw[List.getElem?_eq_none (by simpa using hm)];rfl
theorem zahh(s:ByteArray):inS ⟨#[]⟩ ⟨#[]⟩ s=true:=by
 have h:(⟨#[]⟩:ByteArray).toList=[]:=(zca _).2 rfl;unfold inS;rw[h];cases s.toList<;>rfl
theorem zoq(ao:Option Addr)(L cap K J0:Nat)(ts:List Tm)(R:Bool)(w:World)(hT:TRs w ao ts)(hLe:L=ts.length)(hcap:L<=cap)(hok:okL 1 (txs ts))(hIJ:K+1<J0)(hJL:J0<=L)(hR:R=true↔Rch (txs ts) (K+1) J0) :
  Calls prog 62 #[.slice ao L cap,.int .i64 ((K+1:Nat):Int),.int .i64 (J0:Int)] w fun e w'=>e=.returned (.tuple #[.bool R,.int .i64 0])/\Fr [] w w':=by
 have HL:Hid (L=ts.length):=hLe;have HK:Hid (okL 1 (txs ts)):=hok;have hL2:L<=65536:=by have:=zdb hok;rw[zah]at this;omega
 have HR:Hid (R=true↔Rch (txs ts) (K+1) J0):=hR;have HI:Hid (∀W,Fr [] w W->TRs W ao ts):=fun W hf=>hT.keep hf;obtain⟨ab,aoff,ea,_,_⟩:=hT.lies (by omega);subst ea;have hs0:(0:Int)<=(K:Int):=by omega
 have hs1':(K:Int)<=(J0:Int):=by omega
 have hs2':(J0:Int)<=(cap:Int):=by omega
 have hn1':K<=J0:=by omega
 have hn2':J0<=cap:=by omega
 have hcK:¬(cap=K):=by omega
 have hcK1:¬(cap=K+1):=by omega
 have hsA:=zma ab aoff L cap K J0 (K:Int) rfl hn1' hn2' hcK;have hsB:=zma ab aoff L cap (K+1) J0 ((K:Int)+1) (by omega) (by omega) hn2' hcK1;have hsC:=zkv ab aoff L cap K J0 (K:Int) rfl hn1' hn2' hcK;have hsD:=zkv ab aoff L cap (K+1) J0 ((K:Int)+1) (by omega) (by omega) hn2' hcK1;clear hLe hok hR hT;go_enter func62,ntmps62;go_wp2_with fail
 refine (zdv _ L cap 0 ts _ (HI.out _ (Fr.refl _ _)) HL.out (zgp HK.out)).mono ?_;rintro e w1⟨rfl,hF1⟩;have hb1:¬((K:Int)+1<1):=by omega
 have hb2:¬((J0:Int)<=(K:Int)+1):=by omega
 have hb3:¬((L:Int)<(J0:Int)):=by omega
 have HSt:Hid (∀W,Fr [] w1 W->Calls prog 108 #[.string ⟨#[]⟩,.string ⟨#[]⟩] W fun e w'=>∃b c,e=.returned (.func (Fn.func 128) #[] #[.pointer (some ⟨b,0,none⟩),.pointer (some ⟨c,0,none⟩)])/\SBox w' b ⟨#[]⟩/\SBox w' c ⟨#[]⟩/\Fr [] W w'/\Fr [] w1 w'):=fun W hf=>by
  refine (zsy ⟨#[]⟩ ⟨#[]⟩ W).mono ?_;rintro e w'⟨b,c,rfl,h1,h2,_,_,h3⟩;exact⟨b,c,rfl,h1,h2,h3,hf.then h3⟩
 obtain⟨F,HFe⟩:∃F,Hid (F=wall (inS ⟨#[]⟩ ⟨#[]⟩) (fun _ _=>0) (part (txs ts) (K+1) (J0-K))):=⟨_,rfl⟩;have HWr:Hid (∀W kb ke,Fr [] w1 W->SBox W kb ⟨#[]⟩->SBox W ke ⟨#[]⟩->Calls prog 107 #[.slice (some ⟨ab,aoff+K*2,none⟩) (J0-K) (cap-K),.func (Fn.func 128) #[] #[.pointer (some ⟨kb,0,none⟩),.pointer (some ⟨ke,0,none⟩)]] W fun e w'=>∃b,e=.returned (.map (some b))/\MapF w' b 9000000 F/\W.heap.size<=b/\Fr [] W w'/\Fr [] w1 w'):=fun W kb ke hf h1 h2=>by
  have hq:J0-K=J0-K:=rfl;have ht:TRs W (some ⟨ab,aoff+K*2,none⟩) ((ts.drop K).take (J0-K)):=((HI.out W (hF1.then hf)).drop K).take _;refine (zru (some ⟨ab,aoff+K*2,none⟩) (J0-K) (cap-K) ((ts.drop K).take (J0-K)) kb ke ⟨#[]⟩ ⟨#[]⟩ W ht (by rw[List.length_take,List.length_drop,<-HL.out];omega) h1 h2 ?_ (by omega)).mono ?_
  .intro t hm;have hm2:t∈ts:=List.mem_of_mem_drop (List.mem_of_mem_take hm);have ho:=zaej HK.out t.tx (List.mem_map.2 ⟨t,hm2,rfl⟩);have ha:=(HI.out W (hF1.then hf)).each t hm2;have ho':okT t.n t.ws:=ho;exact⟨by have:=ho'.1;omega,ho'.2.1,by rw[ha.len];exact ho'.2.2.1,fun x hx=>(ho'.2.2.2 x hx).2.1⟩
  rintro e w'⟨b,rfl,hb,hM,h3⟩;refine⟨b,rfl,?_,hb,h3,hf.then h3⟩;rw[HFe.out];have e:txs ((ts.drop K).take (J0-K))=part (txs ts) (K+1) (J0-K):=by
   unfold part txs;rw[List.map_take,List.map_drop];rfl
  rw[<-e];exact hM
 go_upto_region 6 with fail
 have hwK:IntKind.i64.wrap (K:Int)=(K:Int):=by simp[IntKind.wrap,IntKind.bits,IntKind.signed];omega
 go_cut [9] from 13 to 37 (fun s9 wx=>∃(B9 b:Nat),s9=.pointer (some ⟨B9,0,none⟩)/\Cut6 w wx B9 b F)
 case first=>
  (go_region_held3 (fun W=>True) (trivial)
     (first
     |(go_at_call 107;with_reducible refine Calls.mono (HWr.out _ kb ke (by first|exact hG2|exact hG2.then (Fr.alloc [] _ _)) (by first|exact hs1|exact hs1.keep (Fr.alloc [] _ _) (by simp)) (by first|exact hs2|exact hs2.keep (Fr.alloc [] _ _) (by simp))) ?_;rintro e w3⟨b,rfl,hM3,hbW,hFV,hG3⟩;(first|(have hd9:=hFV.keep hc9 (by simp))|(have hd9:=hFV.keep (heap_alloc_new w2 (.cells #[.map none] 184)) (by simp))|skip);(first|(have z1:=zid hd9;have z2:=zop hd9 0;have HD9:=zajm hd9;clear hd9)|skip);(first|clear hc9|skip))
     |(go_at_call 108;with_reducible refine Calls.mono (HSt.out _ (by first|exact Fr.drew [] _|exact (Fr.drew [] _).then (Fr.alloc [] _ _)|exact Fr.refl _ _|exact Fr.alloc [] _ _)) ?_;rintro e w2⟨kb,ke,rfl,hs1,hs2,hFW,hG2⟩;(first|(have hc9:=zahf (hFW.keep (heap_alloc_new w1.drew (.cells #[.map none] 184)) (by simp)))|skip))))
  all_goals (go_wp2_with fail;go_meet)
  all_goals (have hsw:=hF1.size;have hsw2:=hG2.size)
  .exact⟨_,b,rfl,Cut6.alloc hM3 (by omega) (hF1.then hG3)⟩
  .exact⟨_,b,rfl,Cut6.set HD9.out hM3 (by omega) (by simp at hbW;omega) (hF1.then hG3)⟩
  exact⟨_,b,rfl,Cut6.set HD9.out hM3 (by omega) (by omega) (hF1.then hG3)⟩
 obtain⟨B9,b,rfl,hC⟩:=hcut;clear HSt HWr hF1 hwK hsA hsC;obtain⟨iB,hiB,hzB,hszB,hbB⟩:=info_parts zajn;go_wp2_with (at_make;refine wpList_make_full _ rfl (.tmp 39) (.tmp 39) 189 rfl 0 4 iB _ 1 zada hiB hzB hszB .i64 .i64 ((J0:Int)+1) ((J0:Int)+1) (J0+1) rfl rfl (by simp) (by simp) ?b2 ?b3 ?b4 ?_)
 case b2=>rw[hbB];omega
 case b3=>unfold maxLen;omega
 case b4=>exact Nat.zero_le _
 intro wd hown hgrow;rw[zwo]at hown
 have hrow:=zwp hown;have hFd:Fr [] wc wd:=Fr.grown (S:=[]) hgrow (by simp);obtain⟨g,hg⟩:∃g,g=wc.heap.size:=⟨_,rfl⟩;rw[<-hg]at hrow ⊢
 have hgw:w.heap.size<=g:=by have:=hC.fr.size;omega
 clear hown hgrow hg;obtain⟨we,HWe⟩:∃we,Hid (wd.alloc (.cells #[.slice (some ⟨g,0,none⟩) (J0+1) (J0+1)] 189)=we):=⟨_,rfl⟩;obtain⟨B10,HB10⟩:∃B10,Hid (B10=wd.heap.size):=⟨_,rfl⟩;have hFe:Fr [] wd we:=by rw[<-HWe.out];exact Fr.alloc [] wd _
 have hCW:CW we B10 B9 g b (J0+1) F (List.replicate (J0+1) false):=⟨by rw[<-HWe.out,HB10.out];exact heap_alloc_new wd _,hFe.keep (hFd.keep hC.x9 (by simp)) (by simp),hFe.keep hrow (by simp),(hC.map.keep hFd (by simp)).keep hFe (by simp),by simp⟩;have hGe:Fr [] w we:=hC.fr.then (hFd.then hFe);have hB10:w.heap.size<=B10:=by have:=(hC.fr.then hFd).size;rw[HB10.out];exact this
 clear hC hFd hFe hrow;have c10:we.cell? ⟨B10,0,none⟩=some (.slice (some ⟨g,0,none⟩) (J0+1) (J0+1)):=zid hCW.x10;have ci:=hCW.cell (K+1) (by omega);have cf:=hCW.free (K+1);go_upto_region 8 with fail
 rw[HWe.out,<-HB10.out];have hlt1:K+1<J0+1:=by omega
 have hlt2:(K:Int)+1<(J0:Int)+1:=by omega
 have hlt3:(0:Int)<=(K:Int)+1:=by omega
 have hput:=hCW.put (K+1) true;have hGp:Fr [] w (we.setCell ⟨g,K+1,none⟩ (.bool true)):=hGe.on (Fr.set (S:=[g]) we ⟨g,K+1,none⟩ _ (by simp)) (by intro x hx;simp at hx;omega);obtain⟨wf,HWf⟩:∃wf,Hid (we.setCell ⟨g,K+1,none⟩ (.bool true)=wf):=⟨_,rfl⟩;rw[HWf.out]at hput hGp
 have HSp:=zzu (Pk:=inS ⟨#[]⟩ ⟨#[]⟩) HK.out (i:=K+1) (by omega) (J0-K) (by rw[zah,<-HL.out];omega);rw[<-HFe.out,show K+1+(J0-K)=J0+1 by omega]at HSp
 have HPr:Hid (∀(m:Nat) s,K+1<=m->m<J0+1->Wrt (txs ts) m s->Prv (txs ts) (K+1) m s (F s (m:Int))):=fun m s h1 h2 h3=>HSp.2 m s h1 h2 (zahh s) h3;have HP0:Hid (CW wf B10 B9 g b (J0+1) F ((List.replicate (J0+1) false).set (K+1) true)):=hput;have HD:Hid (∀W,Fr [] w W->TRs W (some ⟨ab,aoff+(K+1)*2,none⟩) (ts.drop (K+1))):=fun W hf=>(HI.out W hf).drop (K+1);obtain⟨Q,HQ⟩:∃Q,Hid (Q=J0-(K+1)):=⟨_,rfl⟩;obtain⟨C,HCq⟩:∃C,Hid (C=cap-(K+1)):=⟨_,rfl⟩;obtain⟨O,HO⟩:∃O,Hid (O=aoff+(K+1)*2):=⟨_,rfl⟩;rw[<-HQ.out,<-HCq.out,<-HO.out]at hsB hsD
 have hQJ:Q<=J0:=by rw[HQ.out];omega
 clear HSp hput hCW hGe;go_upto_region 9 with fail
 rw[HWf.out];clear c10 ci cf HWf HWe HB10 hlt1 hlt2 hlt3;go_wp2_with fail
 go_loopw [49] (fun ii wr=>∃(i:Nat)(rs:List Bool),ii=.int .i64 i/\i<=Q/\Hid (CW wr B10 B9 g b (J0+1) F rs)/\Hid (∀m,rs.getD m false=true↔m<K+2+i/\Rch (txs ts) (K+1) m)/\Fr [] w wr) (fun ii _=>Q-(RowKit.intOf ii).toNat)
 case atStart=>
  refine⟨0,_,rfl,Nat.zero_le _,HP0,?_,hGp⟩;intro m;by_cases hm:m=K+1
  .subst hm;exact⟨fun _=>⟨by omega,Rch.base⟩,fun _=>zahg _ _ (by omega)⟩
  rw[zadc _ _ _ hm];refine⟨fun h=>Bool.noConfusion h,fun h=> ?_⟩;have h3:=h.2.ge;have h4:=h.1;omega
 obtain⟨i,rs,rfl,hiQ,HCw,HRs,hFr⟩:=hrel;by_cases hi:i<Q
 .have hiN:K+1+i<ts.length:=by have:=HQ.out;rw[<-HL.out];omega
  have hdl:i<(ts.drop (K+1)).length:=by rw[List.length_drop];omega
  obtain⟨b',o',e',_,hc⟩:=(HD.out _ hFr).lies (by omega);cases e';have hx:=hc i hdl;have hge:(ts.drop (K+1)).getD i Tm.zero=ts.getD (K+1+i) Tm.zero:=by simp[List.getD,List.getElem?_drop]
  rw[hge]at hx
  have HAt:Hid (∀W,Fr [] w W->(ts.getD (K+1+i) Tm.zero).at W):=fun W hf=>(HI.out W hf).each _ (zbw ts _ hiN);obtain⟨hok,hnn⟩:=zea HK.out (K+1+i) (by rw[zah];exact hiN);have hwt:(txs ts).getD (K+2+i-1) Tx.zero=(ts.getD (K+1+i) Tm.zero).tx:=by rw[<-zeb];congr 1;omega
  rw[zeb]at hok hnn
  obtain⟨x,hxx⟩:∃x,x=ts.getD (K+1+i) Tm.zero:=⟨_,rfl⟩;rw[<-hxx]at hx HAt hok hnn hwt
  clear hxx hc hge;obtain⟨n,xo,M,cm,ws⟩:=x;obtain⟨c0,c1⟩:=hx;simp only at c0 c1;rw[<-HO.out]at c0 c1
  have hn:n=((K+2+i:Nat):Int):=by have:n=((1+(K+1+i):Nat):Int):=hnn;rw[this];congr 1;omega
  have hokT:okT n ws:=hok;obtain⟨N,HN⟩:∃N,Hid (N=K+2+i):=⟨_,rfl⟩;rw[<-HN.out]at hn hwt
  subst hn;have HW:Hid (∀s,Wrt (txs ts) N s↔ ∃x∈ws,x.key=s):=fun s=>by unfold Wrt;rw[hwt];rfl
  have hNJ:N<J0+1:=by rw[HN.out];have:=HQ.out;omega
  have HPv:Hid (∀s,Wrt (txs ts) N s->Prv (txs ts) (K+1) N s (F s (N:Int))):=fun s hs=>HPr.out N s (by rw[HN.out];omega) hNJ hs;have hkK:K+1<N:=by rw[HN.out];omega
  obtain⟨T,hT⟩:∃T:Bool,T=true↔Rch (txs ts) (K+1) N:=by
   by_cases h:Rch (txs ts) (K+1) N
   .exact⟨true,by simp[h]⟩
   exact⟨false,by simp[h]⟩
  have HT:Hid (T=true↔Rch (txs ts) (K+1) N):=hT;have HHit:Hid (T=true↔ ∃x∈ws,Hit F (N:Int) rs x=true):=by
   show _↔_;rw[HT.out,Rch.by_last (by omega) hkK (fun s=>F s (N:Int)) HPv.out,hwt];constructor
   .rintro⟨x,hx,q,hq,h0,h1⟩;refine⟨x,hx,?_⟩;have hl:=(HPv.out x.key ((HW.out _).2 ⟨x,hx,rfl⟩)).le (by omega);have hq':F x.key (N:Int)=(q:Int):=hq;unfold Hit;rw[hq',Int.toNat_natCast,HRs.out q];rw[hq']at hl
    exact⟨by have:=HN.out;omega,h1⟩
   rintro⟨x,hx,hh⟩;have hl:=(HPv.out x.key ((HW.out _).2 ⟨x,hx,rfl⟩)).le (by omega);unfold Hit at hh;obtain⟨_,h1⟩:=(HRs.out _).1 hh;have h2:=h1.ge;exact⟨x,hx,(F x.key (N:Int)).toNat,(Int.toNat_of_nonneg hl.1).symm,by omega,h1⟩
  obtain⟨w1,HW1⟩:∃w1,Hid (wr.alloc (.cells #[.int .i64 (N:Int),.slice xo M cm] 108)=w1):=⟨_,rfl⟩;obtain⟨B12,HB12⟩:∃B12,Hid (B12=wr.heap.size):=⟨_,rfl⟩;have hF1:Fr [] wr w1:=by rw[<-HW1.out];exact Fr.alloc [] wr _
  have hbx:w1.heap[B12]? = some (.cells #[.int .i64 (N:Int),.slice xo M cm] 108 (0,0)):=by rw[<-HW1.out,HB12.out];exact heap_alloc_new wr _
  have hG1:=hFr.then hF1;have HCw1:Hid (∀W,Fr [] w1 W->CW W B10 B9 g b (J0+1) F rs):=fun W hf=>(HCw.out.quiet hF1).quiet hf;have HBx:Hid (∀W,Fr [] w1 W->W.heap[B12]? = some (.cells #[.int .i64 (N:Int),.slice xo M cm] 108 (0,0))):=fun W hf=>hf.keep hbx (by simp);have HCe:Hid (∀W,Fr [] w1 W->W.cell? ⟨B10,0,none⟩=some (.slice (some ⟨g,0,none⟩) (J0+1) (J0+1))/\W.cell? ⟨B12,0,none⟩=some (.int .i64 (N:Int))/\W.cell? ⟨B12,1,none⟩=some (.slice xo M cm)/\W.cell? ⟨g,N,none⟩=some (.bool (rs.getD N false))/\W.frozen? ⟨g,N,none⟩=false):=fun W hf=>by
   have hb:=HBx.out W hf;exact⟨zid (HCw1.out W hf).x10,by rw[crw hb];rfl,by rw[crw hb];rfl,(HCw1.out W hf).cell N hNJ,(HCw1.out W hf).free N⟩
  have HCo:Hid (∀W,Fr [] w1 W->Calls prog 109 #[.slice xo M cm,.func (Fn.func 110) #[] #[.pointer (some ⟨B10,0,none⟩),.pointer (some ⟨B9,0,none⟩),.pointer (some ⟨B12,0,none⟩)]] W fun e w'=>e=.returned (.bool T)/\Fr [] w1 w'):=fun W hf=>by
   have hat:TArg W (N:Int) xo M cm ws:=HAt.out W (hG1.then hf);refine (zoo B10 B9 B12 g b (J0+1) F rs (N:Int) xo M cm ws T W (HCw1.out W hf) (HBx.out W hf) hat ?_ (by omega) (fun x hx=>(hokT.2.2.2 x hx).2.1) (by omega) hokT.2.1 (by rw[hat.len];exact hokT.2.2.1) HHit.out).mono ?_
   .intro x hx;have hl:=(HPv.out x.key ((HW.out _).2 ⟨x,hx,rfl⟩)).le (by omega);exact⟨hl.1,by omega⟩
   rintro e w'⟨rfl,h⟩;exact⟨rfl,hf.then h⟩
  obtain⟨k0,k1,k2,k3,k4⟩:=HCe.out _ (Fr.drew [] w1);have m1:=HCw.out.n10;have m2:g≠B10:=fun e=>m1 e.symm;have m3:g≠B12:=by have:=lt_of_block HCw.out.row;rw[HB12.out];omega
  have m4:B12≠g:=fun e=>m3 e.symm;have hNi:(N:Int)<(J0:Int)+1:=by omega
  have hN0:(0:Int)<=(N:Int):=by omega
  clear hok hnn hwt hT HHit hbx;go_upto_region 12 with fail
  rw[HW1.out,<-HB12.out];clear c0 c1 HW1 HB12;go_region_held3 (fun W=>W.cell? ⟨B10,0,none⟩=some (.slice (some ⟨g,0,none⟩) (J0+1) (J0+1))/\W.cell? ⟨B12,0,none⟩=some (.int .i64 (N:Int))/\W.cell? ⟨B12,1,none⟩=some (.slice xo M cm)) (go_keep)
   (first
   |(go_at_call 109;with_reducible refine Calls.mono (HCo.out _ (by first|exact Fr.drew [] _|exact Fr.refl _ _)) ?_;rintro e w2⟨rfl,hF2⟩;obtain⟨j0,j1,j2,j3,j4⟩:=HCe.out _ hF2))
  have HC2:Hid (CW (w2.setCell ⟨g,N,none⟩ (.bool T)) B10 B9 g b (J0+1) F (rs.set N T)):=(HCw1.out _ hF2).put N T;have hG2:Fr [] w (w2.setCell ⟨g,N,none⟩ (.bool T)):=(hG1.then hF2).on (Fr.set (S:=[g]) w2 ⟨g,N,none⟩ _ (by simp)) (by intro x hx;simp at hx;omega);have hrl:=HCw.out.len;have HRs2:Hid (∀m,(rs.set N T).getD m false=true↔m<K+2+(i+1)/\Rch (txs ts) (K+1) m):=by
   intro m;have hNe:=HN.out;by_cases hm:m=N
   .subst hm;rw[List.getD_eq_getElem?_getD,List.getElem?_set_self (by rw[hrl];exact hNJ)];show T=true↔_;rw[HT.out];exact⟨fun h=>⟨by omega,h⟩,fun h=>h.2⟩
   have e:(rs.set N T).getD m false=rs.getD m false:=by rw[List.getD_eq_getElem?_getD,List.getElem?_set_ne (fun e=>hm e.symm),List.getD_eq_getElem?_getD]
   rw[e,HRs.out m];exact⟨fun h=>⟨by have:=h.1;omega,h.2⟩,fun h=>⟨by have:=h.1;omega,h.2⟩⟩
  clear HCw1 HBx HCe HCo HCw hF2 hG1 k0 k1 k2 k3 k4 j0 j1 j2 j3 j4 hrl;go_wp2;go_roundw;case rel=>exact⟨i+1,_,by simp,by omega,HC2,HRs2,hG2⟩
  case measure=>simp[RowKit.intOf];omega
 obtain rfl:i=Q:=by omega
 have HRJ:Hid (rs.getD J0 false=R):=by
  show _=_;rw[Bool.eq_iff_iff,HRs.out J0,HR.out];have:=HQ.out;exact⟨fun h=>h.2,fun h=>⟨by omega,h⟩⟩
 have c10:=zid HCw.out.x10;have cJ:=HCw.out.cell J0 (by omega);rw[HRJ.out]at cJ
 go_wp2;go_ret2;exact⟨rfl,hFr⟩
theorem fChained_any(ao:Option Addr)(L cap:Nat)(i j:Int)(c:Nat)(R:Bool)(ts:List Tm)(w:World)(hT:TRs w ao ts)(hLe:L=ts.length)(hcap:L<=cap)(hi0: -9223372036854775808<=i)(hi1:i<=9223372036854775807)(hj0: -9223372036854775808<=j)(hj1:j<=9223372036854775807)(h:ChTold (txs ts) i j R c) :
  Calls prog 62 #[.slice ao L cap,.int .i64 i,.int .i64 j] w fun e w'=>e=.returned (.tuple #[.bool R,.int .i64 (c:Int)])/\Fr [] w w':=by
 have HL:Hid (L=ts.length):=hLe;rcases h with⟨hb,h0,rfl⟩|⟨hok,hb,rfl,rfl⟩|⟨hok,hb,rfl,hR⟩
 .have HB:Hid (Bad 1 (txs ts) c):=hb;have hcb:((c:Int) != 0)=true:=by rw[bne_iff_ne];omega
  clear hb h0 hLe;go_enter func62,ntmps62;go_wp2_with fail
  refine (zdv ao L cap c ts _ hT HL.out HB.out).mono ?_;rintro e w1⟨rfl,hF1⟩;go_wp2;go_ret2;exact⟨rfl,hF1⟩
 .have HK:Hid (okL 1 (txs ts)):=hok;have hL2:L<=65536:=by have:=zdb hok;rw[zah]at this;omega
  rw[zah,<-hLe]at hb
  clear hok hLe;by_cases h1:i<1
  .have h1':decide (i<1)=true:=by simpa using h1
   go_enter func62,ntmps62;go_wp2_with fail
   refine (zdv ao L cap 0 ts _ hT HL.out (zgp HK.out)).mono ?_;rintro e w1⟨rfl,hF1⟩;go_wp2;go_ret2;exact⟨rfl,hF1⟩
  by_cases h2:j<=i
  .have h2':decide (j<=i)=true:=by simpa using h2
   go_enter func62,ntmps62;go_wp2_with fail
   refine (zdv ao L cap 0 ts _ hT HL.out (zgp HK.out)).mono ?_;rintro e w1⟨rfl,hF1⟩;go_wp2;go_ret2;exact⟨rfl,hF1⟩
  have h3:(L:Int)<j:=by
   by_cases h3:(L:Int)<j
   .exact h3
   exact absurd ⟨by omega,by omega,by omega⟩ hb
  go_enter func62,ntmps62;go_wp2_with fail
  refine (zdv ao L cap 0 ts _ hT HL.out (zgp HK.out)).mono ?_;rintro e w1⟨rfl,hF1⟩;go_wp2;go_ret2;exact⟨rfl,hF1⟩
 rw[zah,<-hLe]at hb
 obtain⟨K,rfl⟩:∃K:Nat,i=((K+1:Nat):Int):=⟨(i-1).toNat,by omega⟩;obtain⟨J0,rfl⟩:∃J0:Nat,j=(J0:Int):=⟨j.toNat,by omega⟩;rw[Int.toNat_natCast,Int.toNat_natCast]at hR
 exact zoq ao L cap K J0 ts R w hT hLe hcap hok (by omega) (by omega) hR
end Ch
end Go.Proofs.YtojjdnjfaelnfaaGreatDoor
