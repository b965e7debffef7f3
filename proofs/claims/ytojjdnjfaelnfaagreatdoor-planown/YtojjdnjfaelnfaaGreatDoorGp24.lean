/- Contracts and lemmas. -/
import Derived.Test.YtojjdnjfaelnfaaGreatDoorGp21
import Derived.Test.YtojjdnjfaelnfaaGreatDoorGp22
import Derived.Test.YtojjdnjfaelnfaaGreatDoorGp23
import Derived.Test.YtojjdnjfaelnfaaGreatDoorGp3
set_option maxHeartbeats 8000000
set_option maxRecDepth 100000
namespace Go.Proofs.YtojjdnjfaelnfaaGreatDoor
set_option linter.unusedSimpArgs false
set_option linter.unusedVariables false
namespace O
open Go.ChangeShapes Go.WideShapes Go.ChangeAt Go.RowKit Go.Lib Go.Maps Go.Proofs.Tryz
structure Hd where
 key:ByteArray
 vo:Option Addr
 L:Nat
 cap:Nat
 vs:List Vn
def Hd.zero:Hd:=⟨noS,none,0,0,[]⟩
structure HEach(w:World)(h:Hd):Prop where
 k:h.key.size<=140737488355328
 len:h.L=h.vs.length
 cp:h.L<=h.cap
 rs:VRs w h.vo h.vs
structure HRs(w:World)(ao:Option Addr)(hs:List Hd):Prop where
 lies:0<hs.length->∃b off,ao=some ⟨b,off,none⟩/\b<w.heap.size/\∀i,i<hs.length->w.cell? ⟨b,off+i*2,none⟩=some (.string (hs.getD i Hd.zero).key)/\w.cell? ⟨b,off+i*2+1,none⟩=some (.slice (hs.getD i Hd.zero).vo (hs.getD i Hd.zero).L (hs.getD i Hd.zero).cap)
 few:hs.length<=3518437208882
 each:∀h∈hs,HEach w h
theorem HEach.keep{w w':World}{h:Hd}(he:HEach w h)(hf:Fr [] w w'):HEach w' h:=⟨he.k,he.len,he.cp,he.rs.keep hf⟩
theorem HRs.keep{w w':World}{ao:Option Addr}{hs:List Hd}(h:HRs w ao hs)(hf:Fr [] w w'):HRs w' ao hs:=by
 refine⟨fun h0=> ?_,h.few,fun x hx=>(h.each x hx).keep hf⟩;obtain⟨b,off,e,hb,hc⟩:=h.lies h0;have hk:∀o,w'.cell? ⟨b,o,none⟩=w.cell? ⟨b,o,none⟩:=fun o=>World.cell?_of_block (hf.block b hb (by simp));exact⟨b,off,e,Nat.lt_of_lt_of_le hb hf.size,fun i hi=>⟨(hk _).trans (hc i hi).1,(hk _).trans (hc i hi).2⟩⟩
theorem zya(hs:List Hd)(i:Nat)(h:i<hs.length):hs.getD i Hd.zero∈hs:=by simp[List.getD,h]
theorem zhr(hs:List Hd)(i:Nat)(h:i<hs.length):hs.take (i+1)=hs.take i++[hs.getD i Hd.zero]:=by
 rw[List.take_add_one];simp[List.getD,h]
def okH(h:Hd):Prop:=okK9 h.key/\h.vs≠[]/\okV h.vs
def LoOk(hs:List Hd):Prop:=hs.Pairwise (fun a b=>Op.bytesLess a.key.toList b.key.toList=true)/\∀h∈hs,okH h
def zhs(hs:List Hd)(i:Nat):ByteArray:=if i=0 then noS else (hs.getD (i-1) Hd.zero).key
theorem zvs(hs:List Hd)(i:Nat):zhs hs (i+1)=(hs.getD i Hd.zero).key:=by unfold zhs;rw[if_neg (by omega),Nat.add_sub_cancel]
theorem zabk(s:ByteArray):Op.bytesLess noS.toList s.toList=true↔s≠noS:=by
 have h0:noS.toList=[]:=(zca _).2 rfl;rw[h0];constructor
 .rintro h rfl;rw[h0]at h
  cases h
 intro h;cases hs:s.toList with
 |nil=>exact absurd ((zgn s).1 ((zca s).1 hs)) h
 |cons a r=>rfl
theorem LoOk.step{hs:List Hd}{i:Nat}(h:LoOk (hs.take i))(hi:i<hs.length):LoOk (hs.take (i+1))↔Op.bytesLess (zhs hs i).toList (hs.getD i Hd.zero).key.toList=true/\okH (hs.getD i Hd.zero):=by
 rw[zhr hs i hi];unfold LoOk;rw[List.pairwise_append];constructor
 .rintro⟨⟨_,_,h3⟩,h4⟩;have ho:=h4 (hs.getD i Hd.zero) (by simp);refine⟨?_,ho⟩;unfold zhs;by_cases h0:i=0
  .rw[if_pos h0,zabk];rintro e;have:=ho.1.1;rw[e]at this
   exact absurd this (by decide)
  rw[if_neg h0];refine h3 _ ?_ _ (by simp);have:i-1<(hs.take i).length:=by simp;omega
  refine List.mem_iff_getElem.2 ⟨i-1,this,?_⟩;simp[List.getD,show i-1<hs.length by omega]
 rintro⟨h1,h2⟩;refine⟨⟨h.1,List.pairwise_singleton _ _,fun a ha b hb=> ?_⟩,fun x hx=> ?_⟩
 .simp at hb;subst hb;obtain⟨j,hj,e⟩:=List.mem_iff_getElem.1 ha;have hj':j<i:=by simp at hj;omega
  have hi0:i≠0:=by omega
  unfold zhs at h1;rw[if_neg hi0]at h1
  have ea:a=hs.getD j Hd.zero:=by rw[<-e];simp[List.getD,show j<hs.length by omega]
  by_cases hjl:j=i-1
  .rw[ea,hjl];exact h1
  have hp:=List.pairwise_iff_getElem.1 h.1 j (i-1) (by simp;omega) (by simp;omega) (by omega);simp only[List.getElem_take]at hp;refine zqe ?_ h1;rw[ea];simpa[List.getD,show j<hs.length by omega,show i-1<hs.length by omega]using hp
 rcases List.mem_append.1 hx with h3|h3
 .exact h.2 x h3
 simp at h3;subst h3;exact h2
theorem LoOk.take{hs:List Hd}(h:LoOk hs)(i:Nat):LoOk (hs.take i):=⟨h.1.sublist (List.take_sublist _ _),fun x hx=>h.2 x (List.mem_of_mem_take hx)⟩
def mOf(hs:List Hd):ByteArray->List Vn:=fun k=>match hs.find? (fun h=>decide (h.key=k)) with
 |some h=>h.vs
 |none=>[]
theorem mOf_nil:mOf []=fun _=>[]:=rfl
theorem zabl{hs:List Hd}{x:Hd}(hn:∀h∈hs,h.key≠x.key):mOf (hs++[x])=updM (mOf hs) x.key x.vs:=by
 funext k
 unfold mOf updM;rw[List.find?_append];by_cases hk:k=x.key
 .rw[if_pos hk];have h1:hs.find? (fun h=>decide (h.key=k))=none:=List.find?_eq_none.2 fun h hh=>by simpa[hk]using hn h hh
  rw[h1];simp[List.find?_cons,hk]
 rw[if_neg hk];have h1:[x].find? (fun h=>decide (h.key=k))=none:=List.find?_eq_none.2 fun h hh=>by simp at hh;subst hh;simpa using fun e=>hk e.symm
 rw[h1,Option.or_none]
structure LI(w wr:World)(sb b i:Nat)(hs:List Hd):Prop where
 fr:Fr [] w wr
 sh:Sh w wr sb b i (mOf (hs.take i))
 ok:LoOk (hs.take i)
theorem LI.next{w wr w1 w2:World}{sb b i:Nat}{hs:List Hd}(h:LI w wr sb b i hs)(hi:i<hs.length)(hn:hs.length<=3518437208882)(hok:LoOk (hs.take (i+1)))(hF1:Fr [] wr w1){ro:Option Addr}{rc:Nat}(hV:VOut w1 w2 ro (hs.getD i Hd.zero).L rc (hs.getD i Hd.zero).vs)(hL:(hs.getD i Hd.zero).L=(hs.getD i Hd.zero).vs.length)(hF2:Fr [] w1 w2) :
  ∃w3,(Instr.mapUpdate 353 (.map (some b)) (.string (hs.getD i Hd.zero).key) (.slice ro (hs.getD i Hd.zero).L rc)).run prog w2=.ok () w3/\LI w w3 sb b (i+1) hs/\Fr [b] w2 w3:=by
 have hst:=(LoOk.step h.ok hi).1 hok;obtain⟨ro0,N0,rc0,hlk,hV0,_⟩:=h.sh.look (hs.getD i Hd.zero).key (by have:=hst.2.1.2;unfold maxLen;omega);have hpos:0<(hs.getD i Hd.zero).L:=by
  rw[hL];exact List.length_pos_iff.2 hst.2.2.1
 obtain⟨w3,e1,e2,e3,e4,_⟩:=h.sh.lay (hs.getD i Hd.zero).key hst.2.1 (by omega) hlk ((hF1.then hF2).mono (by simp)) (hV.later (h.fr.then hF1).size) (fun g hg=>Or.inr (Nat.le_trans hF1.size (hV.blk g (by rw[hg];simp)).1)) hst.2.2.2 hpos;refine⟨w3,e1,⟨e3.below h.sh.bn h.fr h.sh.bl,?_,hok⟩,e4⟩;rw[zhr hs i hi,zabl]
 .exact e2
 intro x hx e;rw[zhr hs i hi]at hok
 have:=(List.pairwise_append.1 hok.1).2.2 x hx (hs.getD i Hd.zero) (by simp);rw[e,zft]at this
 cases this
theorem hload_any(ao:Option Addr)(L cap:Nat)(hs:List Hd)(w:World)(hH:HRs w ao hs)(hL:L=hs.length) :
  Calls prog 196 #[.slice ao L cap] w fun e w'=>(LoOk hs/\∃sb b,e=.returned (.tuple #[.pointer (some ⟨sb,0,none⟩),.int .i64 0])/\Sh w w' sb b L (mOf hs)/\Fr [] w w')\/(¬LoOk hs/\e=.returned (.tuple #[.pointer none,.int .i64 1])/\Fr [] w w'):=by
 have HH:Hid (∀W,Fr [] w W->HRs W ao hs):=fun W hf=>hH.keep hf;have HL:Hid (L=hs.length):=hL;have hLL:L<=3518437208882:=by have:=hH.few;omega
 clear hH hL;go_enter func196,ntmps196;go_wp2_with fail
 refine (zabi w).mono ?_;rintro e w1⟨sb,b,rfl,hS1,hF1⟩;have HI0:Hid (LI w w1 sb b 0 hs):=⟨hF1,hS1,⟨List.Pairwise.nil,by simp⟩⟩;clear hS1 hF1;go_wp2_with fail
 go_loopw [5,11] (fun ss ii wr=>∃(i:Nat)(la:ByteArray),ss=.string la/\ii=.int .i64 i/\i<=L/\Hid (la=zhs hs i)/\Hid (LI w wr sb b i hs)) (fun _ ii _=>L-(RowKit.intOf ii).toNat)
 case atStart=>exact⟨0,⟨#[]⟩,rfl,rfl,Nat.zero_le _,rfl,HI0⟩
 obtain⟨i,la,rfl,rfl,hiL,HLa,HI⟩:=hrel;by_cases hi:i<L
 .have hi':i<hs.length:=by rw[<-HL.out];exact hi
  have hHr:=HH.out _ HI.out.fr;obtain⟨pb,off,rfl,hpb,hat⟩:=hHr.lies (by omega);obtain⟨c0,c1⟩:=hat i hi';have hEc:=hHr.each _ (zya hs i hi');have HSt:Hid (LoOk (hs.take (i+1))↔Op.bytesLess la.toList (hs.getD i Hd.zero).key.toList=true/\okH (hs.getD i Hd.zero)):=by rw[HLa.out];exact LoOk.step HI.out.ok hi'
  have HNe:Hid (¬LoOk (hs.take (i+1))->¬LoOk hs):=fun h1 h2=>h1 (h2.take _);have HNx:Hid (∀w1 w2 ro rc,LoOk (hs.take (i+1))->Fr [] wr w1->VOut w1 w2 ro (hs.getD i Hd.zero).L rc (hs.getD i Hd.zero).vs->Fr [] w1 w2->∃w3,(Instr.mapUpdate 353 (.map (some b)) (.string (hs.getD i Hd.zero).key) (.slice ro (hs.getD i Hd.zero).L rc)).run prog w2=.ok () w3/\LI w w3 sb b (i+1) hs/\Fr [b] w2 w3):=fun w1 w2 ro rc h1 h2 h3 h4=>HI.out.next hi' (by rw[<-HL.out];exact hLL) h1 h2 h3 hEc.len h4;have HLs:Hid (zhs hs (i+1)=(hs.getD i Hd.zero).key):=zvs hs i;have HEc:Hid (HEach wr (hs.getD i Hd.zero)):=hEc;obtain⟨x,hx⟩:∃x,x=hs.getD i Hd.zero:=⟨_,rfl⟩;rw[<-hx]at c0 c1 HSt HNx HLs HEc
  clear hx hat hpb hHr hEc;obtain⟨key,vo,Lv,cv,vs⟩:=x;simp only at c0 c1 HNx HLs;obtain⟨w2,HW2⟩:∃w2,Hid (wr.alloc (.cells #[.string key,.slice vo Lv cv] 114)=w2):=⟨_,rfl⟩;have hF2:Fr [] wr w2:=by rw[<-HW2.out];exact Fr.alloc [] _ _
  have hb2:w2.heap[wr.heap.size]? = some (.cells #[.string key,.slice vo Lv cv] 114 (0,0)):=by rw[<-HW2.out];exact heap_alloc_new _ _
  have HB:Hid (∀W,Fr [] w2 W->W.cell? ⟨wr.heap.size,0,none⟩=some (.string key)/\W.cell? ⟨wr.heap.size,1,none⟩=some (.slice vo Lv cv)):=fun W hf=>by
   have hr:=hf.keep hb2 (by simp);exact⟨by rw[crw hr];rfl,by rw[crw hr];rfl⟩
  have hs2:wr.heap.size<w2.heap.size:=lt_of_block hb2;have HF2:Hid (Fr [] wr w2):=hF2;obtain⟨d0,d1⟩:=HB.out _ (Fr.refl _ _);have HFw:Hid (Fr [] w wr):=HI.out.fr;have hcv:Lv<=cv:=HEc.out.cp;have hLv:Lv<=4398046511104:=by have h1:=HEc.out.len;have h2:=HEc.out.rs.few;simp only at h1 h2;omega
  clear hb2 hF2;go_upto_region 6 with fail
  rw[HW2.out];obtain⟨T,hT⟩:∃T,Op.bytesLess la.toList key.toList=T:=⟨_,rfl⟩;cases T with
  |false=>
   have HNo:Hid (¬LoOk hs):=HNe.out (fun h1=>by have:=(HSt.out.1 h1).1;simp only at this;rw[hT]at this;cases this);clear HSt HNx HNe;cases hA:Op.bytesLess key.toList la.toList with
   |true=>
    go_wp2;go_ret2;exact Or.inr ⟨HNo.out,rfl,HFw.out.then HF2.out⟩
   |false=>
    have hB:(key.toList==la.toList)=true:=by
     rw[beq_iff_eq];exact zakf hA hT
    go_wp2;go_ret2;exact Or.inr ⟨HNo.out,rfl,HFw.out.then HF2.out⟩
  |true=>
   have hA:Op.bytesLess key.toList la.toList=false:=zaba hT;have hB:(key.toList==la.toList)=false:=by
    rw[beq_eq_false_iff_ne];intro e;rw[e,zft]at hT
    cases hT
   by_cases hk:okK9 key
   .have HM:Hid (Calls ..):=zhq key true w2 ⟨fun _=>hk,fun _=>rfl⟩;have HK:Hid (okK9 key):=hk;clear hk;go_wp2_with fail
    refine Calls.mono HM.out ?_;rintro e w3⟨rfl,hF3⟩;obtain⟨d0,d1⟩:=HB.out _ hF3;have HF3:Hid (Fr [] w2 w3):=hF3;clear HM hF3;by_cases hz:Lv=0
    .have HNo:Hid (¬LoOk hs):=HNe.out (fun h1=>by
      have h2:=(HSt.out.1 h1).2.2.1;have h3:=HEc.out.len;simp only at h2 h3;exact h2 (List.eq_nil_of_length_eq_zero (by omega)))
     subst hz;clear HSt HNx HNe;go_wp2;go_ret2;exact Or.inr ⟨HNo.out,rfl,HFw.out.then (HF2.out.then HF3.out)⟩
    have hz1:((Lv:Int)==0)=false:=by simp;omega
    obtain⟨cc,hck⟩:=CkT.ex vs;have HV:Hid (Calls ..):=zdp vo Lv cv cc vs w3 ((HEc.out.rs.keep HF2.out).keep HF3.out) HEc.out.len hck;go_wp2_with fail
    refine Calls.mono HV.out ?_;rintro e w4⟨rfl,hF4⟩;have HF4:Hid (Fr [] w2 w4):=HF3.out.then hF4;obtain⟨d0,d1⟩:=HB.out _ HF4.out;clear HV hF4 HF3;rcases hck with⟨rfl,hok⟩|⟨rfl,hok⟩
    .have HOk:Hid (LoOk (hs.take (i+1))):=HSt.out.2 ⟨hT,HK.out,fun e=>by
      have h3:=HEc.out.len;simp only at e h3;rw[e]at h3
      exact hz h3,hok⟩
     have cs:=(HI.out.sh.keep (HF2.out.then HF4.out)).cell;have hbn:sb≠b/\wr.heap.size≠b:=by
      obtain⟨es,cc,e⟩:=HI.out.sh.mb;exact⟨fun e2=>(by rw[<-e2,HI.out.sh.box]at e;cases e),fun e2=>(by have:=lt_of_block e;omega)⟩
     have hsbl:sb<wr.heap.size:=lt_of_block HI.out.sh.box;have HCl:Hid (∀W,Fr [] w4 W->Calls prog 199 #[.slice vo Lv cv] W fun e w'=>∃ro rc,e=.returned (.slice ro Lv rc)/\(w'.cell? ⟨sb,0,none⟩=some (.map (some b))/\w'.cell? ⟨wr.heap.size,0,none⟩=some (.string key)/\w'.cell? ⟨wr.heap.size,1,none⟩=some (.slice vo Lv cv))/\∃w5,(Instr.mapUpdate 353 (.map (some b)) (.string key) (.slice ro Lv rc)).run prog w'=.ok () w5/\LI w w5 sb b (i+1) hs/\(w5.cell? ⟨sb,0,none⟩=some (.map (some b))/\w5.cell? ⟨wr.heap.size,0,none⟩=some (.string key)/\w5.cell? ⟨wr.heap.size,1,none⟩=some (.slice vo Lv cv))):=by
      intro W hW;have hFW:=HF2.out.then (HF4.out.then hW);refine (znk vo Lv cv vs W (HEc.out.rs.keep hFW) HEc.out.len).mono ?_;rintro e w'⟨ro,rc,rfl,hO,hF'⟩;obtain⟨g0,g1⟩:=HB.out _ ((HF4.out.then hW).then hF');have gs:=(HI.out.sh.keep (hFW.then hF')).cell;obtain⟨w5,k1,k2,k3⟩:=HNx.out W w' ro rc HOk.out hFW hO hF';have l1:wr.heap.size<w'.heap.size:=Nat.lt_of_lt_of_le hs2 ((HF4.out.then hW).then hF').size;exact⟨ro,rc,rfl,⟨gs,g0,g1⟩,w5,k1,k2,zap k3 gs (by omega) (by simpa using hbn.1),zap k3 g0 l1 (by simpa using hbn.2),zap k3 g1 l1 (by simpa using hbn.2)⟩
     clear HSt HNx HNe hok HI HB hbn;go_wp2_with fail
     go_region_held3 (fun W=>W.cell? ⟨sb,0,none⟩=some (.map (some b))/\W.cell? ⟨wr.heap.size,0,none⟩=some (.string key)/\W.cell? ⟨wr.heap.size,1,none⟩=some (.slice vo Lv cv)) (go_keep)
      (first|(go_at_call 199;with_reducible refine (HCl.out _ (Fr.drew _ _)).mono ?_;rintro e w5⟨ro,rc,rfl,⟨g0,g1,g2⟩,w6,hr6,hI6,j0,j1,j2⟩))
     have HI6:Hid (LI w w6 sb b (i+1) hs):=hI6;clear hI6;go_wp2_with fail
     go_roundw;case rel=>exact⟨i+1,key,rfl,by simp,by omega,HLs.out.symm,HI6⟩
     case measure=>simp[RowKit.intOf];omega
    have HNo:Hid (¬LoOk hs):=HNe.out (fun h1=>hok (HSt.out.1 h1).2.2.2);clear HSt HNx HNe hok;go_wp2;go_ret2;exact Or.inr ⟨HNo.out,rfl,HFw.out.then (HF2.out.then HF4.out)⟩
   have HM:Hid (Calls ..):=zhq key false w2 ⟨fun e=>(by cases e),fun e=>absurd e hk⟩;have HNo:Hid (¬LoOk hs):=HNe.out (fun h1=>hk (HSt.out.1 h1).2.1);clear hk HSt HNx HNe;go_wp2_with fail
   refine Calls.mono HM.out ?_;rintro e w3⟨rfl,hF3⟩;clear HM;go_wp2;go_ret2;exact Or.inr ⟨HNo.out,rfl,HFw.out.then (HF2.out.then hF3)⟩
 have hiL2:i=hs.length:=by have:=HL.out;omega
 have HR:Hid (LoOk hs/\Sh w wr sb b L (mOf hs)/\Fr [] w wr):=by
  have h1:=HI.out;have e:hs.take i=hs:=List.take_of_length_le (by omega);exact⟨by rw[<-e];exact h1.ok,by have:=h1.sh;rw[e]at this;exact this.mono hiL,h1.fr⟩
 clear HI hiL2;go_wp2;go_ret2;exact Or.inl ⟨HR.out.1,sb,b,rfl,HR.out.2⟩
structure RqB(w:World)(r:Rv)(ns:List Int):Prop where
 k:0<=r.k/\r.k<=255
 f: -9223372036854775808<=r.f/\r.f<=9223372036854775807
 n: -9223372036854775808<=r.n/\r.n<=9223372036854775807
 wk:r.wk.size<=140737488355328
 wv:r.wv.size<=140737488355328
 key:r.key.size<=140737488355328
 en:r.en.size<=140737488355328
 is:IRs w r.bo ns
 len:r.bl=ns.length
 cap:r.bl<=r.bc
theorem RqB.keep{w w':World}{r:Rv}{ns:List Int}(h:RqB w r ns)(hf:Fr [] w w'):RqB w' r ns:=⟨h.k,h.f,h.n,h.wk,h.wv,h.key,h.en,h.is.keep hf,h.len,h.cap⟩
section
variable{H:Type}{enc:TypeId×Value->H}
end
theorem zaey:prog.underlying 91=some (.struct (prog.fieldsOf 91)):=by kernel_rfl
theorem zabm:prog.stoodInHeld 91=false:=by kernel_rfl
theorem zvt:(prog.fieldsOf 91).toList.map (fun f=>(f.name == "_",f.type,f.offset))=[(false,9,0),(false,9,1),(false,4,2)]:=by kernel_rfl
theorem znp:prog.underlying 4=some .bool:=by kernel_rfl
theorem zex(w:World)(cs:Array Value)(off:Nat)(v:Value)(h:cs[off]? = some v):(part 9 cs off).run prog w=.ok v w:=by
 simp[part,isAgg,run_underlying zeo,h,Sem.run_bind]
theorem zkg(w:World)(cs:Array Value)(off:Nat)(v:Value)(h:cs[off]? = some v):(part 4 cs off).run prog w=.ok v w:=by
 simp[part,isAgg,run_underlying znp,h,Sem.run_bind]
theorem zqj(w:World)(a b:ByteArray):(Op.equalIn 9999 9 (.string a) (.string b)).run prog w=.ok (a.toList==b.toList) w:=run_equalIn_string w 9998 _ a b zeo
theorem zyb(w:World)(a b:Bool):(Op.equalIn 9999 4 (.bool a) (.bool b)).run prog w=.ok (a==b) w:=run_equalIn_bool w 9998 _ a b znp
theorem zfh{P:Program}{w:World}{A B:Sem Value}{E:Value->Value->Sem Bool}{K:Sem Bool}{a b:Value}{r:Bool}(hA:A.run P w=.ok a w)(hB:B.run P w=.ok b w)(hE:(E a b).run P w=.ok r w) :
  (do let a <- A;let b <- B;let r <- E a b;if (!r)=true then pure false else K:Sem Bool).run P w=if r=true then K.run P w else .ok false w:=by
 simp only[Sem.run_bind,hA,hB,hE,Result.andThen_ok];cases r<;>simp
theorem zsw(w:World)(k1 v1 k2 v2:ByteArray)(p1 p2:Bool):(Op.equalIn 10000 91 (.agg #[.string k1,.string v1,.bool p1]) (.agg #[.string k2,.string v2,.bool p2])).run prog w=.ok (k1.toList==k2.toList&&(v1.toList==v2.toList&&p1==p2)) w:=by
 rw[run_equalIn_struct w 9999 _ _ _ zaey zabm];have hF:=zvt;obtain⟨l,hl⟩:∃l,l=(prog.fieldsOf 91).toList:=⟨_,rfl⟩;rw[<-hl]at hF ⊢
 match l,hF with
 | [f0,f1,f2],hF=>
  simp only[List.map_cons,List.map_nil,List.cons.injEq,Prod.mk.injEq,and_true]at hF;obtain⟨⟨n0,t0,o0⟩,⟨n1,t1,o1⟩,⟨n2,t2,o2⟩⟩:=hF;have m0:f0.name≠ "_" :=by simpa using n0
  have m1:f1.name≠ "_" :=by simpa using n1
  have m2:f2.name≠ "_" :=by simpa using n2
  simp only[Op.eqFields,if_pos m0,if_pos m1,if_pos m2,t0,t1,t2,o0,o1,o2];rw[zfh (zex w _ 0 _ rfl) (zex w _ 0 _ rfl) (zqj w k1 k2)];rw[zfh (zex w _ 1 _ rfl) (zex w _ 1 _ rfl) (zqj w v1 v2)];rw[zfh (zkg w _ 2 _ rfl) (zkg w _ 2 _ rfl) (zyb w p1 p2)];cases (k1.toList==k2.toList)<;>cases (v1.toList==v2.toList)<;>cases (p1==p2)<;>simp
theorem zec(w:World)(k1 v1 k2 v2:ByteArray)(p1 p2:Bool):(binOp .eql 91 (.agg #[.string k1,.string v1,.bool p1]) (.agg #[.string k2,.string v2,.bool p2])).run prog w=.ok (.bool (k1.toList==k2.toList&&(v1.toList==v2.toList&&p1==p2))) w:=by
 rw[run_eql_struct,zsw];rfl
theorem eNil:(⟨#[]⟩:ByteArray).toList=[]:=(zca _).2 rfl
structure Rq where
 k:Int
 f:Int
 n:Int
 wk:ByteArray
 wv:ByteArray
 wd:Bool
 key:ByteArray
 en:ByteArray
 bs:List Int
def Rv.q(r:Rv)(ns:List Int):Rq:=⟨r.k,r.f,r.n,r.wk,r.wv,r.wd,r.key,r.en,ns⟩
instance (k:ByteArray):Decidable (okK9 k):=by unfold okK9;infer_instance
def okWr(k v:ByteArray)(d:Bool):Prop:=okK9 k/\v.size<=1024/\(v.size=0\/d=false)
instance (k v:ByteArray) (d:Bool):Decidable (okWr k v d):=by unfold okWr;infer_instance
def noWr(k v:ByteArray)(d:Bool):Prop:=k.size=0/\v.size=0/\d=false
instance (k v:ByteArray) (d:Bool):Decidable (noWr k v d):=by unfold noWr;infer_instance
def Ab:Int->List Int->Prop
 |_,[]=>True
 |a,n::ns=>a<n/\n<=65536/\Ab n ns
def okR(r:Rq):Prop:=r.f≠0/\0<=r.n/\r.n<=65536 /\
 (
  (r.k=1/\(r.key.size=0/\r.en.size=0)/\r.bs=[]/\0<r.f/\0<r.n/\okWr r.wk r.wv r.wd) \/
  (r.k=2/\noWr r.wk r.wv r.wd/\r.bs=[]/\okK9 r.key/\r.en.size=0) \/
  (r.k=3/\noWr r.wk r.wv r.wd/\r.bs=[]/\r.key.size<=64/\r.en.size<=64) \/
  (r.k=4/\noWr r.wk r.wv r.wd/\(r.key.size=0/\r.en.size=0)/\r.bs=[]) \/
  (r.k=5/\noWr r.wk r.wv r.wd/\(r.key.size=0/\r.en.size=0)/\Ab r.n r.bs))
theorem zbr(s:ByteArray):(s.toList==([]:List UInt8))=decide (s.size=0):=by
 have:=zca s;by_cases h:s.size=0
 .rw[this.2 h];simp[h]
 simp[h,this]
theorem zdf(key:ByteArray)(w:World):Calls prog 313 #[.string key] w fun e w'=>e=.returned (.bool (decide (okK9 key)))/\w=w':=by
 have hE:=zbr key;have hE2:(key.toList != ([]:List UInt8))= !decide (key.size=0):=by rw[bne,hE]
 by_cases h:key.size=0
 .have hd:decide (okK9 key)=false:=decide_eq_false (fun h2=>by have:=h2.1;omega);rw[hd];simp only[h,decide_true,Bool.not_true]at hE hE2;have e0:=eNil;clear hd;go_enter func313,ntmps313;go_wp2;all_goals (go_ret;exact⟨rfl,rfl⟩)
 have hd:decide (okK9 key)=decide ((key.size:Int)<=64):=by
  rw[Bool.eq_iff_iff,decide_eq_true_eq,decide_eq_true_eq];unfold okK9;omega
 rw[hd];simp only[h,decide_false,Bool.not_false]at hE hE2;have e0:=eNil;clear hd;go_enter func313,ntmps313;go_wp2;all_goals (go_ret;exact⟨rfl,rfl⟩)
theorem ziu(key:ByteArray)(w:World):Calls prog 314 #[.string key] w fun e w'=>e=.returned (.bool (decide (key.size<=64)))/\w=w':=by
 have hE:=zbr key;have e0:=eNil;by_cases h:key.size=0
 .have hd:decide (key.size<=64)=true:=by simp;omega
  rw[hd];simp only[h,decide_true]at hE;clear hd;go_enter func314,ntmps314;go_wp2;all_goals (go_ret;exact⟨rfl,rfl⟩)
 have hd:decide (key.size<=64)=decide (okK9 key):=by
  rw[Bool.eq_iff_iff,decide_eq_true_eq,decide_eq_true_eq];unfold okK9;omega
 rw[hd];simp only[h,decide_false]at hE;clear hd;go_enter func314,ntmps314;go_wp2_with (first|(refine (zdf key _).mono ?_;rintro e w1⟨rfl,rfl⟩))
 all_goals (go_ret;exact⟨rfl,rfl⟩)
theorem zqk(k v:ByteArray)(d:Bool)(w:World):Calls prog 312 #[.agg #[.string k,.string v,.bool d]] w fun e w'=>e=.returned (.bool (decide (okWr k v d)))/\Fr [] w w':=by
 have hE:=zbr v;have e0:=eNil;have HF:Hid (Fr [] w (w.alloc (.cells #[.string k,.string v,.bool d] 91))):=Fr.alloc _ _ _;by_cases hk:okK9 k
 .by_cases hv:v.size<=1024
  .by_cases h0:v.size=0
   .have hd:decide (okWr k v d)=true:=(by simp[okWr,hk,h0]);rw[hd];have hv1:(v.size:Int)<=1024:=(by omega);simp only[h0,decide_true]at hE;go_enter func312,ntmps312;go_wp2_with fail
    refine (zdf k _).mono ?_;rw[decide_eq_true hk];rintro e w1⟨rfl,rfl⟩;go_wp2;all_goals (go_ret;exact⟨rfl,HF.out⟩)
   have hd:decide (okWr k v d)= !d:=by cases d<;>simp[okWr,hk,hv,h0]
   rw[hd];have hv1:(v.size:Int)<=1024:=by omega
   simp only[h0,decide_false]at hE;go_enter func312,ntmps312;go_wp2_with fail
   refine (zdf k _).mono ?_;rw[decide_eq_true hk];rintro e w1⟨rfl,rfl⟩;go_wp2;all_goals (go_ret;exact⟨rfl,HF.out⟩)
  have hd:decide (okWr k v d)=false:=by simp[okWr,hv]
  rw[hd];have hv1:¬(v.size:Int)<=1024:=by omega
  go_enter func312,ntmps312;go_wp2_with fail
  refine (zdf k _).mono ?_;rw[decide_eq_true hk];rintro e w1⟨rfl,rfl⟩;go_wp2;all_goals (go_ret;exact⟨rfl,HF.out⟩)
 have hd:decide (okWr k v d)=false:=by simp[okWr,hk]
 rw[hd];go_enter func312,ntmps312;go_wp2_with fail
 refine (zdf k _).mono ?_;rw[decide_eq_false hk];rintro e w1⟨rfl,rfl⟩;go_wp2;all_goals (go_ret;exact⟨rfl,HF.out⟩)
theorem zyc(ns:List Int)(i:Nat)(h:i<ns.length):ns.drop i=ns.getD i 0::ns.drop (i+1):=by
 rw[List.drop_eq_getElem_cons h];simp[List.getD,h]
theorem zyd(a:Int)(ao:Option Addr)(L cap:Nat)(ns:List Int)(B:Bool)(w:World)(hI:IRs w ao ns)(hL:L=ns.length)(hB:B=true↔Ab a ns) :
  Calls prog 315 #[.int .i64 a,.slice ao L cap] w fun e w'=>e=.returned (.bool B)/\w=w':=by
 have HI:Hid (IRs w ao ns):=hI;have HL:Hid (L=ns.length):=hL;have HB:Hid (B=true↔Ab a ns):=hB;have hLm:L<=17592186044416:=by have:=hI.few;omega
 clear hI hL hB;go_enter func315,ntmps315;go_wp2_with fail
 go_loopw [0,9] (fun cc ii wr=>∃(c:Int)(i:Nat),cc=.int .i64 c/\ii=.int .i64 i/\i<=L/\Hid (Ab a ns↔Ab c (ns.drop i))/\Hid (w=wr)) (fun _ ii _=>L-(RowKit.intOf ii).toNat)
 case atStart=>exact⟨a,0,rfl,rfl,Nat.zero_le _,Iff.rfl,rfl⟩
 obtain⟨c,i,rfl,rfl,hiL,HA,HW⟩:=hrel;by_cases hi:i<L
 .have hi':i<ns.length:=by rw[<-HL.out];exact hi
  obtain⟨b,off,rfl,hb,hc⟩:=HI.out.lies (by omega);have c0:=hc i hi';rw[HW.out]at c0
  have HD:Hid (ns.drop i=ns.getD i 0::ns.drop (i+1)):=zyc ns i hi';obtain⟨n,hn⟩:∃n,n=ns.getD i 0:=⟨_,rfl⟩;rw[<-hn]at c0 HD
  clear hc hb hn;by_cases h1:n<=c
  .have hN:B=false:=by
    cases B with
    |false=>rfl
    |true=>have:=HA.out.1 (HB.out.1 rfl);rw[HD.out]at this;have:=this.1;omega
   clear HA HB HD;subst hN;go_wp2;go_ret;exact⟨rfl,HW.out⟩
  by_cases h2:65536<n
  .have hN:B=false:=by
    cases B with
    |false=>rfl
    |true=>have:=HA.out.1 (HB.out.1 rfl);rw[HD.out]at this;have:=this.2.1;omega
   clear HA HB HD;subst hN;go_wp2;go_ret;exact⟨rfl,HW.out⟩
  have HA2:Hid (Ab a ns↔Ab n (ns.drop (i+1))):=HA.out.trans (by rw[HD.out];exact⟨fun h=>h.2.2,fun h=>⟨by omega,by omega,h⟩⟩);clear HA HD;go_wp2_with fail
  go_roundw;case rel=>exact⟨n,i+1,rfl,by simp,by omega,HA2,HW⟩
  case measure=>simp[RowKit.intOf];omega
 have hN:B=true:=by
  refine HB.out.2 (HA.out.2 ?_);rw[List.drop_of_length_le (by have:=HL.out;omega)];trivial
 clear HA HB;subst hN;go_wp2;go_ret;exact⟨rfl,HW.out⟩
theorem zub:prog.underlying 25=some (.slice 3):=by kernel_rfl
theorem zaez:(prog.info? 3).map (fun i=>(i.zero,i.size,i.bytes))=some (some (.int .i64 0),1,8):=by kernel_rfl
theorem zol:∃i,prog.info? 3=some i/\i.zero=some (.int .i64 0)/\i.size=1/\i.bytes=8:=by
 have h:=zaez;cases hi:prog.info? 3 with
 |none=>rw[hi]at h;cases h
 |some i=>
  rw[hi]at h
  simp only[Option.map_some,Option.some.injEq,Prod.mk.injEq]at h;exact⟨i,rfl,h.1,h.2.1,h.2.2⟩
def zhu(ns:List Int):List Value:=ns.map fun n=> .int .i64 n
theorem ziv(ns:List Int):(zhu ns).length=ns.length:=by simp[zhu]
theorem znq(ns:List Int)(j:Nat)(h:j<ns.length):(zhu ns)[j]? = some (.int .i64 (ns.getD j 0)):=by simp[zhu,List.getD,h]
theorem zvu(ao:Option Addr)(L cap:Nat)(ns:List Int)(w:World)(hI:IRs w ao ns)(hL:L=ns.length)(hc:L<=131072) :
  Calls prog 306 #[.slice ao L cap] w fun e w'=>∃ro rc,e=.returned (.slice ro L rc)/\IRs w' ro ns/\(∀a,ro=some a->w.heap.size<=a.block/\∃cur,w'.heap[a.block]? = some (.cells cur 3 (0,0)))/\Fr [] w w':=by
 have q22:∀(w:World)(a:Option Addr)(n c n' c':Nat),(binOp .eql 25 (.slice a n c) (.slice none n' c')).run prog w=.ok (.bool a.isNone) w:=fun w a n c n' c'=>Lib.run_eql_slice_nil w _ _ a n c n' c' zub;cases ao with
 |none=>
  obtain rfl:L=0:=by
   rcases Nat.eq_zero_or_pos ns.length with h|h
   .omega
   obtain⟨b,off,e,_⟩:=hI.lies h;cases e
  obtain rfl:ns=[]:=List.eq_nil_of_length_eq_zero hL.symm;clear hI hL;go_enter func306,ntmps306;go_wp2;go_ret;exact⟨none,0,rfl,⟨fun h=>by simp at h,by simp⟩,fun a e=>(by cases e),Fr.refl _ _⟩
 |some a=>
  obtain⟨i0,hi,hz0,hz1,hz2⟩:=zol;have hc2:Hid (∀j u,(zhu ns)[j]? = some u->w.cell? (a.add j)=some u):=by
   intro j u hu;have hj:j<ns.length:=by have:=(List.getElem?_eq_some_iff.1 hu).1;rwa [ziv]at this
   obtain⟨b,off,e,_,hcc⟩:=hI.lies (by omega);cases e;rw[Addr.add_lit,hcc j hj];rw[znq ns j hj]at hu
   exact hu
  have HL:Hid (L=ns.length):=hL;have HF:Hid (ns.length<=131072):=by show _<=_;omega
  clear hI hL;go_enter func306,ntmps306;go_wp2_with (at_builtin;refine wpList_append_own _ rfl _ _ 25 rfl w.heap.size 3 i0 (.int .i64 0) 1 8 zub hi hz0 hz1 hz2 rfl (by decide) _ _ _ rfl (World.ownsRow_made w #[] 0 (Nat.le_refl _) (Nat.zero_le _) (by simp)) a L cap (zhu ns) rfl ?qc1 ?qc2 ?qc3 ?qc4 ?qc5 ?qc6 ?_)
  case qc1=>rw[ziv,HL.out,Nat.mul_one]
  case qc2=>
   intro j u hj;exact Lib.cell?_alloc_some _ (hc2.out j u hj)
  case qc3=>
   intro u hu;obtain⟨_,_,rfl⟩:=List.mem_map.1 hu;rfl
  case qc4=>rw[Nat.zero_add];have:=HL.out;have:=HF.out;simp only[maxLen];omega
  case qc5=>rw[Nat.zero_add];have:=HL.out;have:=HF.out;omega
  case qc6=>simp
  intro v' w1 hown hgrow hnil;obtain⟨ro,rc,rfl⟩:∃ro rc,v'=.slice ro L rc:=by
   rcases hown.2 with⟨hh,h0⟩|⟨g,cap',_,hh,_⟩
   .exact⟨none,0,by
     rw[hh];have:L=0:=by omega
     rw[this]⟩
   exact⟨_,cap',by rw[hh]⟩
  have HO:Hid (IRs w1 ro ns/\(∀a,ro=some a->w.heap.size<=a.block/\∃cur,w1.heap[a.block]? = some (.cells cur 3 (0,0)))/\Fr [] w w1):=by
   have hown2:w1.ownsRow w.heap.size 3 1 (.slice ro L rc) L (zhu ns):=by simpa using hown
   refine⟨?_,?_,(Fr.alloc [] w _).on (Fr.grown (S:=[w.heap.size]) hgrow (by intro k hk _;simp[Value.ownBlock]at hk;simp[hk])) (by simp)⟩
   .rcases hown2.2 with⟨hv,h0⟩|⟨g,cap',cur,hv,hbase,hg,h1,h2,h3,ht⟩
    .have:ns=[]:=List.eq_nil_of_length_eq_zero (by have:=HL.out;omega);subst this;exact⟨fun h=>by simp at h,by simp⟩
    cases hv;refine⟨fun h0=>⟨g,0,rfl,lt_of_block hg,fun i hi=> ?_⟩,by have:=HF.out;omega⟩;rw[crw hg,Nat.zero_add,<-Array.getElem?_toList,<-znq ns i hi,<-ht,List.getElem?_take_of_lt (by have:=HL.out;omega)]
   intro a' e;rcases hown2.2 with⟨hv,h0⟩|⟨g,cap',cur,hv,hbase,hg,h1,h2,h3,ht⟩
   .cases hv;cases e
   cases hv;cases e;exact⟨hbase,cur,hg⟩
  clear hown hgrow hnil;go_wp2;go_ret;exact⟨ro,rc,rfl,HO.out⟩
end O
namespace Dp
open Go.ChangeShapes Go.WideShapes Go.ChangeAt Go.RowKit Go.Lib Go.Proofs.Tryz
theorem zagl(w:World):Calls prog 195 #[.int .i64 0,.slice none 0 0] w fun e w'=>e=.returned (.bool true)/\w=w':=by
 go_enter func195,ntmps195;go_wp2_with fail
 go_loopw [12] (fun ii wr=>ii=.int .i64 0/\w=wr) (fun ii _=>0)
 case atStart=>exact⟨rfl,rfl⟩
 obtain⟨rfl,rfl⟩:=hrel;go_wp2;go_ret;exact⟨rfl,rfl⟩
theorem zacl(w:World):Calls prog 196 #[.slice none 0 0] w fun e w'=>∃p,e=.returned (.tuple #[p,.int .i64 0])/\Fr [] w w':=by
 have hl:O.LoOk []:=⟨List.Pairwise.nil,by simp⟩;refine Calls.mono (O.hload_any none 0 0 [] w ⟨fun h=>absurd h (by simp),by simp,by simp⟩ rfl) ?_;rintro e w' (⟨_,sb,b,rfl,_,hf⟩|⟨hn,_⟩)
 .exact⟨_,rfl,hf⟩
 exact absurd hl hn
theorem zzk(w:World):Calls prog 177 #[.agg #[.int .i64 0,.slice none 0 0,.slice none 0 0]] w fun e w'=>e=.returned (.int .i64 0)/\Fr [] w w':=by
 obtain⟨w1,HW1⟩:∃w1,Hid (w.alloc (.cells #[.int .i64 0,.slice none 0 0,.slice none 0 0] 218)=w1):=⟨_,rfl⟩;obtain⟨A,HA⟩:∃A,Hid (w.heap.size=A):=⟨_,rfl⟩;have hF1:Fr [] w w1:=by rw[<-HW1.out];exact Fr.alloc [] w _
 have hb1:w1.heap[A]? = some (.cells #[.int .i64 0,.slice none 0 0,.slice none 0 0] 218 (0,0)):=by rw[<-HW1.out,<-HA.out];exact heap_alloc_new w _
 have HBx:Hid (∀W,Fr [] w1 W->W.cell? ⟨A,0,none⟩=some (.int .i64 0)/\W.cell? ⟨A,1,none⟩=some (.slice none 0 0)/\W.cell? ⟨A,2,none⟩=some (.slice none 0 0)):=fun W hf=>by
  have hr:=hf.keep hb1 (by simp);exact⟨by rw[crw hr];rfl,by rw[crw hr];rfl,by rw[crw hr];rfl⟩
 have HF1:Hid (Fr [] w w1):=hF1;have HB:Hid (Calls ..):=zagl w1;have HLd:Hid (Calls ..):=zacl w1;obtain⟨k0,k1,k2⟩:=HBx.out _ (Fr.refl _ _);clear hb1 hF1;go_enter func177,ntmps177;go_upto_region 1 with fail
 rw[HW1.out,HA.out];clear HW1 HA;go_wp2_with fail
 refine Calls.mono HB.out ?_;rintro e w2⟨rfl,rfl⟩;go_wp2_with fail
 refine Calls.mono HLd.out ?_;rintro e w3⟨p,rfl,hf3⟩;obtain⟨j0,j1,j2⟩:=HBx.out _ hf3;have HF3:Hid (Fr [] w w3):=HF1.out.then hf3;clear hf3 k0 k1 k2 HBx;go_wp2_with fail
 go_loopw [34] (fun ii wr=>ii=.int .i64 0/\w3=wr) (fun ii _=>0)
 case atStart=>exact⟨rfl,rfl⟩
 obtain⟨rfl,rfl⟩:=hrel;go_wp2;go_ret;exact⟨rfl,HF3.out⟩
theorem zajc:prog.underlying 25=some (.slice 3):=by kernel_rfl
theorem zajd:(prog.info? 3).map (fun i=>(i.zero,i.size,i.bytes))=some (some (.int .i64 0),1,8):=by kernel_rfl
theorem zacm:prog.underlying 116=some (.slice 110):=by kernel_rfl
theorem zacn:(prog.info? 110).map (fun i=>(i.zero,i.size,i.bytes))=some (some (.slice none 0 0),1,24):=by kernel_rfl
theorem zadt{P:Program}{t:TypeId}{z:Value}{n m:Nat}(h:(P.info? t).map (fun i=>(i.zero,i.size,i.bytes))=some (some z,n,m)):∃i,P.info? t=some i/\i.zero=some z/\i.size=n/\i.bytes=m:=by
 cases hi:P.info? t with
 |none=>rw[hi]at h;cases h
 |some i=>
  rw[hi]at h
  simp only[Option.map_some,Option.some.injEq,Prod.mk.injEq]at h;exact⟨i,rfl,h.1,h.2.1,h.2.2⟩
theorem zzl(cv:Value)(hc:∃a b c d,cv=.agg #[.int .i64 a,.int .i64 b,.int .i64 c,.int .i64 d])(w:World):Calls prog 178 #[cv,.slice none 0 0] w fun e w'=>∃ao C,e=.returned (.slice ao 0 C)/\Fr [] w w':=by
 obtain⟨a,b,c,d,rfl⟩:=hc;obtain⟨w1,HW1⟩:∃w1,Hid (w.alloc (.cells #[.int .i64 a,.int .i64 b,.int .i64 c,.int .i64 d] 23)=w1):=⟨_,rfl⟩;have hF1:Fr [] w w1:=by rw[<-HW1.out];exact Fr.alloc [] w _
 have HF1:Hid (Fr [] w w1):=hF1;obtain⟨iI,hiI,hzI,hsI,hbI⟩:=zadt zajd;clear hF1;go_enter func178,ntmps178;go_upto_region 1 with fail
 rw[HW1.out];clear HW1;go_wp2_with (at_make;refine wpList_make_full _ rfl (.tmp 9) (.tmp 9) 25 rfl 0 3 iI _ 1 zajc hiI hzI hsI .i64 .i64 0 0 0 rfl rfl rfl rfl ?b2 ?b3 ?b4 ?_)
 case b2=>omega
 case b3=>unfold maxLen;omega
 case b4=>exact Nat.zero_le _
 intro w2 hown hgrow;have HF2:Hid (Fr [] w w2):=HF1.out.then (Fr.grown (S:=[]) hgrow (by simp));clear hown hgrow;go_wp2_with fail
 go_loopw [13] (fun ii wr=>ii=.int .i64 0/\w2=wr) (fun ii _=>0)
 case atStart=>exact⟨rfl,rfl⟩
 obtain⟨rfl,rfl⟩:=hrel;go_wp2;go_ret;exact⟨_,_,rfl,HF2.out⟩
theorem zwc(mo:Option Addr)(C:Nat)(n:Int)(w:World):Calls prog 179 #[.slice none 0 0,.slice mo 0 C,.int .i64 n] w fun e w'=>e=.returned (.slice none 0 0)/\w=w':=by
 go_enter func179,ntmps179;go_wp2_with fail
 go_loopw [7,12] (fun pp ii wr=>pp=.slice none 0 0/\ii=.int .i64 0/\w=wr) (fun pp ii _=>0)
 case atStart=>exact⟨rfl,rfl,rfl⟩
 obtain⟨rfl,rfl,rfl⟩:=hrel;go_wp2;go_ret;exact⟨rfl,rfl⟩
def NilR(w:World)(lb S:Nat):Prop:=∃cur:Array Value,w.heap[lb]? = some (.cells cur 110 (0,0))/\cur.size=S/\∀i,i<S->cur[i]? = some (.slice none 0 0)
theorem NilR.keep{S:List Nat}{w w':World}{lb n:Nat}(h:NilR w lb n)(hf:Fr S w w')(hn:lb∉S):NilR w' lb n:=by
 obtain⟨cur,h1,h2⟩:=h;exact⟨cur,hf.keep h1 hn,h2⟩
theorem NilR.cell{w:World}{lb n:Nat}(h:NilR w lb n){i:Nat}(hi:i<n):w.cell? ⟨lb,i,none⟩=some (.slice none 0 0):=by
 obtain⟨cur,h1,_,h2⟩:=h;rw[crw h1];exact h2 i hi
theorem NilR.free{w:World}{lb n:Nat}(h:NilR w lb n)(i:Nat):w.frozen? ⟨lb,i,none⟩=false:=by
 obtain⟨cur,h1,_⟩:=h;simp[World.frozen?,h1]
theorem NilR.put{w:World}{lb n:Nat}(h:NilR w lb n)(i:Nat):NilR (w.setCell ⟨lb,i,none⟩ (.slice none 0 0)) lb n:=by
 obtain⟨cur,h1,h2,h3⟩:=h;refine⟨_,Ap.row_setCell _ h1,by simpa using h2,fun j hj=> ?_⟩;by_cases e:i=j
 .subst e;rw[Array.getElem?_setIfInBounds_self_of_lt (by omega)]
 rw[Array.getElem?_setIfInBounds_ne e];exact h3 j hj
theorem NilR.made{w':World}{b C:Nat}(h:w'.ownsRow 0 110 1 (.slice (some ⟨b,0,none⟩) C C) C (madeCells #[Value.slice none 0 0] C).toList):NilR w' b C:=by
 rcases h.2 with⟨hh,_⟩|⟨g',cap',cur,hh,hb,hg,hnc,hcm,hcs,ht⟩
 .cases hh
 cases hh;refine⟨cur,hg,by simpa using hcs,fun i hi=> ?_⟩;have h1:(cur.toList.take (C*1))[i]? = ((madeCells #[Value.slice none 0 0] C).toList)[i]? :=by rw[ht]
 rw[List.getElem?_take,if_pos (by omega),Array.getElem?_toList]at h1
 rw[h1];simp[madeCells,Value.cells,hi,Nat.mod_one]
theorem split_nil(l s x q:Int)(hm:Cf.may ⟨l,s,x,q⟩)(w:World) :
  Calls prog 154 #[.agg #[.int .i64 l,.int .i64 s,.int .i64 x,.int .i64 q],.agg #[.int .i64 0,.slice none 0 0,.slice none 0 0]] w fun e w'=>∃lb,e=.returned (.tuple #[.slice (some ⟨lb,0,none⟩) s.toNat s.toNat,.int .i64 0])/\NilR w' lb s.toNat/\w.heap.size<=lb/\Fr [] w w':=by
 obtain⟨w1,HW1⟩:∃w1,Hid ((w.alloc (.cells #[.int .i64 l,.int .i64 s,.int .i64 x,.int .i64 q] 23)).alloc (.cells #[.int .i64 0,.slice none 0 0,.slice none 0 0] 218)=w1):=⟨_,rfl⟩;have hF1:Fr [] w w1:=by rw[<-HW1.out];exact (Fr.alloc [] w _).then (Fr.alloc [] _ _)
 have e1:(w.alloc (.cells #[.int .i64 l,.int .i64 s,.int .i64 x,.int .i64 q] 23)).heap.size=w.heap.size+1:=by simp
 have hC1:CfM w1 w.heap.size l s x q:=by rw[<-HW1.out];exact (CfM.new _ _ _ _ _ _).keep (Fr.alloc [] _ _)
 have hb1:w1.heap[w.heap.size+1]? = some (.cells #[.int .i64 0,.slice none 0 0,.slice none 0 0] 218 (0,0)):=by rw[<-HW1.out,<-e1];exact heap_alloc_new _ _
 have HC1:Hid (∀W,Fr [] w1 W->CfM W w.heap.size l s x q):=fun W hf=>hC1.keep hf;have HBx:Hid (∀W,Fr [] w1 W->W.cell? ⟨w.heap.size+1,0,none⟩=some (.int .i64 0)/\W.cell? ⟨w.heap.size+1,1,none⟩=some (.slice none 0 0)/\W.cell? ⟨w.heap.size+1,2,none⟩=some (.slice none 0 0)):=fun W hf=>by
  have hr:=hf.keep hb1 (by simp);exact⟨by rw[crw hr];rfl,by rw[crw hr];rfl,by rw[crw hr];rfl⟩
 have HF1:Hid (Fr [] w w1):=hF1;have hCk:=zdh l s x q w1;have hE:Cf.err ⟨l,s,x,q⟩=0:=if_pos hm;rw[hE]at hCk
 have HCk:Hid (Calls ..):=hCk;obtain⟨S,hS⟩:∃S:Nat,s=(S:Int):=⟨s.toNat,by have:=hm.2.1.1;simp only at this;omega⟩;have hs1:1<=S/\S<=16:=by have:=hm.2.1;simp only at this;omega
 obtain⟨hs1a,hs1b⟩:=hs1;subst hS;simp only[Int.toNat_natCast];obtain⟨_,f0,f1,f2,f3⟩:=HC1.out _ (Fr.refl _ _);obtain⟨k0,k1,k2⟩:=HBx.out _ (Fr.refl _ _);clear hm hE hCk hb1 hF1 hC1 e1;go_enter func154,ntmps154;go_upto_region 1 with fail
 rw[HW1.out];go_wp2_with fail
 refine Calls.mono HCk.out ?_;rintro e w2⟨rfl,hF2⟩;have HF2:Hid (Fr [] w1 w2):=hF2;obtain⟨k0,k1,k2⟩:=HBx.out _ hF2;have HC2:Hid (Calls ..):=zzk w2;clear HCk hF2;go_wp2_with fail
 refine Calls.mono HC2.out ?_;rintro e w3⟨rfl,hF3⟩;have HF3:Hid (Fr [] w1 w3):=HF2.out.then hF3;obtain⟨k0,k1,k2⟩:=HBx.out _ HF3.out;obtain⟨_,f0,f1,f2,f3⟩:=HC1.out _ HF3.out;have HC4:Hid (Calls ..):=zzl _ ⟨l,(S:Int),x,q,rfl⟩ w3;obtain⟨iI,hiI,hzI,hsI,hbI⟩:=zadt zacn;clear HC2 hF3 HF2;go_wp2_with fail
 refine Calls.mono HC4.out ?_;rintro e w4⟨mo,mC,rfl,hF4⟩;have HF4:Hid (Fr [] w1 w4):=HF3.out.then hF4;obtain⟨k0,k1,k2⟩:=HBx.out _ HF4.out;obtain⟨_,f0,f1,f2,f3⟩:=HC1.out _ HF4.out;clear HC4 hF4 HF3;go_wp2_with (at_make;refine wpList_make_full _ rfl (.tmp 26) (.tmp 26) 116 rfl 0 110 iI _ 1 zacm hiI hzI hsI .i64 .i64 S S S rfl rfl rfl rfl ?b2 ?b3 ?b4 ?_)
 case b2=>rw[hbI];omega
 case b3=>unfold maxLen;omega
 case b4=>exact Nat.zero_le _
 intro w5 hown hgrow;have hF5:Fr [] w4 w5:=Fr.grown (S:=[]) hgrow (by simp);have HF5:Hid (Fr [] w4 w5):=hF5;obtain⟨lb,hlb⟩:∃lb,lb=w4.heap.size:=⟨_,rfl⟩;have hL5:=NilR.made hown;rw[<-hlb]at hL5 ⊢
 have HI5:Hid (NilR w5 lb S):=hL5;obtain⟨k0,k1,k2⟩:=HBx.out _ (HF4.out.then hF5);obtain⟨_,f0,f1,f2,f3⟩:=HC1.out _ (HF4.out.then hF5);have hlb4:w4.heap.size<=lb:=by omega
 have HLB:Hid (w.heap.size<=lb):=by have:=(HF1.out.then HF4.out).size;show _<=_;omega
 clear hown hgrow hF5 hlb hL5;go_wp2_with fail
 go_loopw [30] (fun ii wr=>∃(i:Nat),ii=.int .i64 i/\i<=S/\Hid (NilR wr lb S)/\Hid (Fr [] w4 wr)) (fun ii _=>S-(RowKit.intOf ii).toNat)
 case atStart=>exact⟨0,rfl,Nat.zero_le _,HI5,HF5⟩
 obtain⟨i,rfl,hiS,HI,HG⟩:=hrel;by_cases hi:i<S
 .have hlt:(i:Int)<S:=by omega
  obtain⟨k0,k1,k2⟩:=HBx.out _ (HF4.out.then HG.out);have HC6:Hid (Calls ..):=zwc mo mC (i:Int) wr;have g0:=HI.out.cell hi;have g1:=HI.out.free i;have HI7:Hid (NilR (wr.setCell ⟨lb,i,none⟩ (.slice none 0 0)) lb S):=HI.out.put i;have HG7:Hid (Fr [] w4 (wr.setCell ⟨lb,i,none⟩ (.slice none 0 0))):=HG.out.on (Fr.set _ ⟨lb,i,none⟩ _ (by simp):Fr [lb] _ _) (by intro k hk;simp at hk;omega);clear HI HG;go_wp2_with fail
  refine Calls.mono HC6.out ?_;rintro e w6⟨rfl,rfl⟩;clear HC6;go_wp2_with fail
  go_roundw;case rel=>exact⟨i+1,by simp,by omega,HI7,HG7⟩
  case measure=>simp[RowKit.intOf];omega
 have HR:Hid (NilR wr lb S/\Fr [] w wr):=⟨HI.out,HF1.out.then (HF4.out.then HG.out)⟩;have hlt:¬(i:Int)<S:=by omega
 clear HI HG;go_wp2;go_ret2;exact⟨lb,rfl,HR.out.1,HLB.out,HR.out.2⟩
end Dp
end Go.Proofs.YtojjdnjfaelnfaaGreatDoor
