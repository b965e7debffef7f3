/- Contracts and lemmas. -/
import Derived.Test.YtaigdcmoecgabaaGreatGp21
import Derived.Test.YtaigdcmoecgabaaGreatGp22
set_option maxHeartbeats 8000000
set_option maxRecDepth 100000
set_option linter.unusedSimpArgs false
set_option linter.unusedVariables false
namespace Go.Proofs.YtaigdcmoecgabaaGreat.O
open Go.ChangeShapes Go.WideShapes Go.ChangeAt Go.RowKit Go.Lib Go.Maps Go.Proofs.Tryz
structure Hd where
 key:ByteArray
 vo:Option Addr
 L:Nat
 cap:Nat
 vs:List Vn
def Hd.zero:Hd:=⟨noS,none,0,0,[]⟩
structure HEach(w:World)(h:Hd):Prop where
 k:h.key.size<=140737488355328
 len:h.L=h.vs.length
 cp:h.L<=h.cap
 rs:VRs w h.vo h.vs
structure HRs(w:World)(ao:Option Addr)(hs:List Hd):Prop where
 lies:0<hs.length->∃b off,ao=some ⟨b,off,none⟩/\b<w.heap.size/\∀i,i<hs.length->w.cell? ⟨b,off+i*2,none⟩=some (.string (hs.getD i Hd.zero).key)/\w.cell? ⟨b,off+i*2+1,none⟩=some (.slice (hs.getD i Hd.zero).vo (hs.getD i Hd.zero).L (hs.getD i Hd.zero).cap)
 few:hs.length<=3518437208882
 each:∀h∈hs,HEach w h
theorem HEach.keep{w w':World}{h:Hd}(he:HEach w h)(hf:Fr [] w w'):HEach w' h:=⟨he.k,he.len,he.cp,he.rs.keep hf⟩
theorem HRs.keep{w w':World}{ao:Option Addr}{hs:List Hd}(h:HRs w ao hs)(hf:Fr [] w w'):HRs w' ao hs:=by
 refine⟨fun h0=> ?_,h.few,fun x hx=>(h.each x hx).keep hf⟩;obtain⟨b,off,e,hb,hc⟩:=h.lies h0;have hk:∀o,w'.cell? ⟨b,o,none⟩=w.cell? ⟨b,o,none⟩:=fun o=>World.cell?_of_block (hf.block b hb (by simp));exact⟨b,off,e,Nat.lt_of_lt_of_le hb hf.size,fun i hi=>⟨(hk _).trans (hc i hi).1,(hk _).trans (hc i hi).2⟩⟩
theorem zxs(hs:List Hd)(i:Nat)(h:i<hs.length):hs.getD i Hd.zero∈hs:=by simp[List.getD,h]
theorem zib(hs:List Hd)(i:Nat)(h:i<hs.length):hs.take (i+1)=hs.take i++[hs.getD i Hd.zero]:=by
 rw[List.take_add_one];simp[List.getD,h]
def okH(h:Hd):Prop:=okK9 h.key/\h.vs≠[]/\okV h.vs
def LoOk(hs:List Hd):Prop:=hs.Pairwise (fun a b=>Op.bytesLess a.key.toList b.key.toList=true)/\∀h∈hs,okH h
def zic(hs:List Hd)(i:Nat):ByteArray:=if i=0 then noS else (hs.getD (i-1) Hd.zero).key
theorem zvc(hs:List Hd)(i:Nat):zic hs (i+1)=(hs.getD i Hd.zero).key:=by unfold zic;rw[if_neg (by omega),Nat.add_sub_cancel]
theorem zabe(s:ByteArray):Op.bytesLess noS.toList s.toList=true↔s≠noS:=by
 have h0:noS.toList=[]:=(zca _).2 rfl;rw[h0];constructor
 .rintro h rfl;rw[h0]at h
  cases h
 intro h;cases hs:s.toList with
 |nil=>exact absurd ((zfc s).1 ((zca s).1 hs)) h
 |cons a r=>rfl
theorem LoOk.step{hs:List Hd}{i:Nat}(h:LoOk (hs.take i))(hi:i<hs.length):LoOk (hs.take (i+1))↔Op.bytesLess (zic hs i).toList (hs.getD i Hd.zero).key.toList=true/\okH (hs.getD i Hd.zero):=by
 rw[zib hs i hi];unfold LoOk;rw[List.pairwise_append];constructor
 .rintro⟨⟨_,_,h3⟩,h4⟩;have ho:=h4 (hs.getD i Hd.zero) (by simp);refine⟨?_,ho⟩;unfold zic;by_cases h0:i=0
  .rw[if_pos h0,zabe];rintro e;have:=ho.1.1;rw[e]at this
   exact absurd this (by decide)
  rw[if_neg h0];refine h3 _ ?_ _ (by simp);have:i-1<(hs.take i).length:=by simp;omega
  refine List.mem_iff_getElem.2 ⟨i-1,this,?_⟩;simp[List.getD,show i-1<hs.length by omega]
 rintro⟨h1,h2⟩;refine⟨⟨h.1,List.pairwise_singleton _ _,fun a ha b hb=> ?_⟩,fun x hx=> ?_⟩
 .simp at hb;subst hb;obtain⟨j,hj,e⟩:=List.mem_iff_getElem.1 ha;have hj':j<i:=by simp at hj;omega
  have hi0:i≠0:=by omega
  unfold zic at h1;rw[if_neg hi0]at h1
  have ea:a=hs.getD j Hd.zero:=by rw[<-e];simp[List.getD,show j<hs.length by omega]
  by_cases hjl:j=i-1
  .rw[ea,hjl];exact h1
  have hp:=List.pairwise_iff_getElem.1 h.1 j (i-1) (by simp;omega) (by simp;omega) (by omega);simp only[List.getElem_take]at hp;refine zpv ?_ h1;rw[ea];simpa[List.getD,show j<hs.length by omega,show i-1<hs.length by omega]using hp
 rcases List.mem_append.1 hx with h3|h3
 .exact h.2 x h3
 simp at h3;subst h3;exact h2
theorem LoOk.take{hs:List Hd}(h:LoOk hs)(i:Nat):LoOk (hs.take i):=⟨h.1.sublist (List.take_sublist _ _),fun x hx=>h.2 x (List.mem_of_mem_take hx)⟩
def mOf(hs:List Hd):ByteArray->List Vn:=fun k=>match hs.find? (fun h=>decide (h.key=k)) with
 |some h=>h.vs
 |none=>[]
theorem mOf_nil:mOf []=fun _=>[]:=rfl
theorem zabf{hs:List Hd}{x:Hd}(hn:∀h∈hs,h.key≠x.key):mOf (hs++[x])=updM (mOf hs) x.key x.vs:=by
 funext k
 unfold mOf updM;rw[List.find?_append];by_cases hk:k=x.key
 .rw[if_pos hk];have h1:hs.find? (fun h=>decide (h.key=k))=none:=List.find?_eq_none.2 fun h hh=>by simpa[hk]using hn h hh
  rw[h1];simp[List.find?_cons,hk]
 rw[if_neg hk];have h1:[x].find? (fun h=>decide (h.key=k))=none:=List.find?_eq_none.2 fun h hh=>by simp at hh;subst hh;simpa using fun e=>hk e.symm
 rw[h1,Option.or_none]
structure LI(w wr:World)(sb b i:Nat)(hs:List Hd):Prop where
 fr:Fr [] w wr
 sh:Sh w wr sb b i (mOf (hs.take i))
 ok:LoOk (hs.take i)
theorem LI.next{w wr w1 w2:World}{sb b i:Nat}{hs:List Hd}(h:LI w wr sb b i hs)(hi:i<hs.length)(hn:hs.length<=3518437208882)(hok:LoOk (hs.take (i+1)))(hF1:Fr [] wr w1){ro:Option Addr}{rc:Nat}(hV:VOut w1 w2 ro (hs.getD i Hd.zero).L rc (hs.getD i Hd.zero).vs)(hL:(hs.getD i Hd.zero).L=(hs.getD i Hd.zero).vs.length)(hF2:Fr [] w1 w2) :
  ∃w3,(Instr.mapUpdate 323 (.map (some b)) (.string (hs.getD i Hd.zero).key) (.slice ro (hs.getD i Hd.zero).L rc)).run prog w2=.ok () w3/\LI w w3 sb b (i+1) hs/\Fr [b] w2 w3:=by
 have hst:=(LoOk.step h.ok hi).1 hok;obtain⟨ro0,N0,rc0,hlk,hV0,_⟩:=h.sh.look (hs.getD i Hd.zero).key (by have:=hst.2.1.2;unfold maxLen;omega);have hpos:0<(hs.getD i Hd.zero).L:=by
  rw[hL];exact List.length_pos_iff.2 hst.2.2.1
 obtain⟨w3,e1,e2,e3,e4,_⟩:=h.sh.lay (hs.getD i Hd.zero).key hst.2.1 (by omega) hlk ((hF1.then hF2).mono (by simp)) (hV.later (h.fr.then hF1).size) (fun g hg=>Or.inr (Nat.le_trans hF1.size (hV.blk g (by rw[hg];simp)).1)) hst.2.2.2 hpos;refine⟨w3,e1,⟨e3.below h.sh.bn h.fr h.sh.bl,?_,hok⟩,e4⟩;rw[zib hs i hi,zabf]
 .exact e2
 intro x hx e;rw[zib hs i hi]at hok
 have:=(List.pairwise_append.1 hok.1).2.2 x hx (hs.getD i Hd.zero) (by simp);rw[e,zga]at this
 cases this
theorem hload_any(ao:Option Addr)(L cap:Nat)(hs:List Hd)(w:World)(hH:HRs w ao hs)(hL:L=hs.length) :
  Calls prog 190 #[.slice ao L cap] w fun e w'=>(LoOk hs/\∃sb b,e=.returned (.tuple #[.pointer (some ⟨sb,0,none⟩),.int .i64 0])/\Sh w w' sb b L (mOf hs)/\Fr [] w w')\/(¬LoOk hs/\e=.returned (.tuple #[.pointer none,.int .i64 1])/\Fr [] w w'):=by
 have HH:Hid (∀W,Fr [] w W->HRs W ao hs):=fun W hf=>hH.keep hf;have HL:Hid (L=hs.length):=hL;have hLL:L<=3518437208882:=by have:=hH.few;omega
 clear hH hL;go_enter func190,ntmps190;go_wp2_with fail
 refine (zabc w).mono ?_;rintro e w1⟨sb,b,rfl,hS1,hF1⟩;have HI0:Hid (LI w w1 sb b 0 hs):=⟨hF1,hS1,⟨List.Pairwise.nil,by simp⟩⟩;clear hS1 hF1;go_wp2_with fail
 go_loopw [5,11] (fun ss ii wr=>∃(i:Nat)(la:ByteArray),ss=.string la/\ii=.int .i64 i/\i<=L/\Hid (la=zic hs i)/\Hid (LI w wr sb b i hs)) (fun _ ii _=>L-(RowKit.intOf ii).toNat)
 case atStart=>exact⟨0,⟨#[]⟩,rfl,rfl,Nat.zero_le _,rfl,HI0⟩
 obtain⟨i,la,rfl,rfl,hiL,HLa,HI⟩:=hrel;by_cases hi:i<L
 .have hi':i<hs.length:=by rw[<-HL.out];exact hi
  have hHr:=HH.out _ HI.out.fr;obtain⟨pb,off,rfl,hpb,hat⟩:=hHr.lies (by omega);obtain⟨c0,c1⟩:=hat i hi';have hEc:=hHr.each _ (zxs hs i hi');have HSt:Hid (LoOk (hs.take (i+1))↔Op.bytesLess la.toList (hs.getD i Hd.zero).key.toList=true/\okH (hs.getD i Hd.zero)):=by rw[HLa.out];exact LoOk.step HI.out.ok hi'
  have HNe:Hid (¬LoOk (hs.take (i+1))->¬LoOk hs):=fun h1 h2=>h1 (h2.take _);have HNx:Hid (∀w1 w2 ro rc,LoOk (hs.take (i+1))->Fr [] wr w1->VOut w1 w2 ro (hs.getD i Hd.zero).L rc (hs.getD i Hd.zero).vs->Fr [] w1 w2->∃w3,(Instr.mapUpdate 323 (.map (some b)) (.string (hs.getD i Hd.zero).key) (.slice ro (hs.getD i Hd.zero).L rc)).run prog w2=.ok () w3/\LI w w3 sb b (i+1) hs/\Fr [b] w2 w3):=fun w1 w2 ro rc h1 h2 h3 h4=>HI.out.next hi' (by rw[<-HL.out];exact hLL) h1 h2 h3 hEc.len h4;have HLs:Hid (zic hs (i+1)=(hs.getD i Hd.zero).key):=zvc hs i;have HEc:Hid (HEach wr (hs.getD i Hd.zero)):=hEc;obtain⟨x,hx⟩:∃x,x=hs.getD i Hd.zero:=⟨_,rfl⟩;rw[<-hx]at c0 c1 HSt HNx HLs HEc
  clear hx hat hpb hHr hEc;obtain⟨key,vo,Lv,cv,vs⟩:=x;simp only at c0 c1 HNx HLs;obtain⟨w2,HW2⟩:∃w2,Hid (wr.alloc (.cells #[.string key,.slice vo Lv cv] 293)=w2):=⟨_,rfl⟩;have hF2:Fr [] wr w2:=by rw[<-HW2.out];exact Fr.alloc [] _ _
  have hb2:w2.heap[wr.heap.size]? = some (.cells #[.string key,.slice vo Lv cv] 293 (0,0)):=by rw[<-HW2.out];exact heap_alloc_new _ _
  have HB:Hid (∀W,Fr [] w2 W->W.cell? ⟨wr.heap.size,0,none⟩=some (.string key)/\W.cell? ⟨wr.heap.size,1,none⟩=some (.slice vo Lv cv)):=fun W hf=>by
   have hr:=hf.keep hb2 (by simp);exact⟨by rw[crw hr];rfl,by rw[crw hr];rfl⟩
  have hs2:wr.heap.size<w2.heap.size:=lt_of_block hb2;have HF2:Hid (Fr [] wr w2):=hF2;obtain⟨d0,d1⟩:=HB.out _ (Fr.refl _ _);have HFw:Hid (Fr [] w wr):=HI.out.fr;have hcv:Lv<=cv:=HEc.out.cp;have hLv:Lv<=4398046511104:=by have h1:=HEc.out.len;have h2:=HEc.out.rs.few;simp only at h1 h2;omega
  clear hb2 hF2;go_upto_region 6 with fail
  rw[HW2.out];obtain⟨T,hT⟩:∃T,Op.bytesLess la.toList key.toList=T:=⟨_,rfl⟩;cases T with
  |false=>
   have HNo:Hid (¬LoOk hs):=HNe.out (fun h1=>by have:=(HSt.out.1 h1).1;simp only at this;rw[hT]at this;cases this);clear HSt HNx HNe;cases hA:Op.bytesLess key.toList la.toList with
   |true=>
    go_wp2;go_ret2;exact Or.inr ⟨HNo.out,rfl,HFw.out.then HF2.out⟩
   |false=>
    have hB:(key.toList==la.toList)=true:=by
     rw[beq_iff_eq];exact zakd hA hT
    go_wp2;go_ret2;exact Or.inr ⟨HNo.out,rfl,HFw.out.then HF2.out⟩
  |true=>
   have hA:Op.bytesLess key.toList la.toList=false:=zaat hT;have hB:(key.toList==la.toList)=false:=by
    rw[beq_eq_false_iff_ne];intro e;rw[e,zga]at hT
    cases hT
   by_cases hk:okK9 key
   .have HM:Hid (Calls ..):=zia key true w2 ⟨fun _=>hk,fun _=>rfl⟩;have HK:Hid (okK9 key):=hk;clear hk;go_wp2_with fail
    refine Calls.mono HM.out ?_;rintro e w3⟨rfl,hF3⟩;obtain⟨d0,d1⟩:=HB.out _ hF3;have HF3:Hid (Fr [] w2 w3):=hF3;clear HM hF3;by_cases hz:Lv=0
    .have HNo:Hid (¬LoOk hs):=HNe.out (fun h1=>by
      have h2:=(HSt.out.1 h1).2.2.1;have h3:=HEc.out.len;simp only at h2 h3;exact h2 (List.eq_nil_of_length_eq_zero (by omega)))
     subst hz;clear HSt HNx HNe;go_wp2;go_ret2;exact Or.inr ⟨HNo.out,rfl,HFw.out.then (HF2.out.then HF3.out)⟩
    have hz1:((Lv:Int)==0)=false:=by simp;omega
    obtain⟨cc,hck⟩:=CkT.ex vs;have HV:Hid (Calls ..):=zdq vo Lv cv cc vs w3 ((HEc.out.rs.keep HF2.out).keep HF3.out) HEc.out.len hck;go_wp2_with fail
    refine Calls.mono HV.out ?_;rintro e w4⟨rfl,hF4⟩;have HF4:Hid (Fr [] w2 w4):=HF3.out.then hF4;obtain⟨d0,d1⟩:=HB.out _ HF4.out;clear HV hF4 HF3;rcases hck with⟨rfl,hok⟩|⟨rfl,hok⟩
    .have HOk:Hid (LoOk (hs.take (i+1))):=HSt.out.2 ⟨hT,HK.out,fun e=>by
      have h3:=HEc.out.len;simp only at e h3;rw[e]at h3
      exact hz h3,hok⟩
     have cs:=(HI.out.sh.keep (HF2.out.then HF4.out)).cell;have hbn:sb≠b/\wr.heap.size≠b:=by
      obtain⟨es,cc,e⟩:=HI.out.sh.mb;exact⟨fun e2=>(by rw[<-e2,HI.out.sh.box]at e;cases e),fun e2=>(by have:=lt_of_block e;omega)⟩
     have hsbl:sb<wr.heap.size:=lt_of_block HI.out.sh.box;have HCl:Hid (∀W,Fr [] w4 W->Calls prog 193 #[.slice vo Lv cv] W fun e w'=>∃ro rc,e=.returned (.slice ro Lv rc)/\(w'.cell? ⟨sb,0,none⟩=some (.map (some b))/\w'.cell? ⟨wr.heap.size,0,none⟩=some (.string key)/\w'.cell? ⟨wr.heap.size,1,none⟩=some (.slice vo Lv cv))/\∃w5,(Instr.mapUpdate 323 (.map (some b)) (.string key) (.slice ro Lv rc)).run prog w'=.ok () w5/\LI w w5 sb b (i+1) hs/\(w5.cell? ⟨sb,0,none⟩=some (.map (some b))/\w5.cell? ⟨wr.heap.size,0,none⟩=some (.string key)/\w5.cell? ⟨wr.heap.size,1,none⟩=some (.slice vo Lv cv))):=by
      intro W hW;have hFW:=HF2.out.then (HF4.out.then hW);refine (znc vo Lv cv vs W (HEc.out.rs.keep hFW) HEc.out.len).mono ?_;rintro e w'⟨ro,rc,rfl,hO,hF'⟩;obtain⟨g0,g1⟩:=HB.out _ ((HF4.out.then hW).then hF');have gs:=(HI.out.sh.keep (hFW.then hF')).cell;obtain⟨w5,k1,k2,k3⟩:=HNx.out W w' ro rc HOk.out hFW hO hF';have l1:wr.heap.size<w'.heap.size:=Nat.lt_of_lt_of_le hs2 ((HF4.out.then hW).then hF').size;exact⟨ro,rc,rfl,⟨gs,g0,g1⟩,w5,k1,k2,zaq k3 gs (by omega) (by simpa using hbn.1),zaq k3 g0 l1 (by simpa using hbn.2),zaq k3 g1 l1 (by simpa using hbn.2)⟩
     clear HSt HNx HNe hok HI HB hbn;go_wp2_with fail
     go_region_held3 (fun W=>W.cell? ⟨sb,0,none⟩=some (.map (some b))/\W.cell? ⟨wr.heap.size,0,none⟩=some (.string key)/\W.cell? ⟨wr.heap.size,1,none⟩=some (.slice vo Lv cv)) (go_keep)
      (first|(go_at_call 193;with_reducible refine (HCl.out _ (Fr.drew _ _)).mono ?_;rintro e w5⟨ro,rc,rfl,⟨g0,g1,g2⟩,w6,hr6,hI6,j0,j1,j2⟩))
     have HI6:Hid (LI w w6 sb b (i+1) hs):=hI6;clear hI6;go_wp2_with fail
     go_roundw;case rel=>exact⟨i+1,key,rfl,by simp,by omega,HLs.out.symm,HI6⟩
     case measure=>simp[RowKit.intOf];omega
    have HNo:Hid (¬LoOk hs):=HNe.out (fun h1=>hok (HSt.out.1 h1).2.2.2);clear HSt HNx HNe hok;go_wp2;go_ret2;exact Or.inr ⟨HNo.out,rfl,HFw.out.then (HF2.out.then HF4.out)⟩
   have HM:Hid (Calls ..):=zia key false w2 ⟨fun e=>(by cases e),fun e=>absurd e hk⟩;have HNo:Hid (¬LoOk hs):=HNe.out (fun h1=>hk (HSt.out.1 h1).2.1);clear hk HSt HNx HNe;go_wp2_with fail
   refine Calls.mono HM.out ?_;rintro e w3⟨rfl,hF3⟩;clear HM;go_wp2;go_ret2;exact Or.inr ⟨HNo.out,rfl,HFw.out.then (HF2.out.then hF3)⟩
 have hiL2:i=hs.length:=by have:=HL.out;omega
 have HR:Hid (LoOk hs/\Sh w wr sb b L (mOf hs)/\Fr [] w wr):=by
  have h1:=HI.out;have e:hs.take i=hs:=List.take_of_length_le (by omega);exact⟨by rw[<-e];exact h1.ok,by have:=h1.sh;rw[e]at this;exact this.mono hiL,h1.fr⟩
 clear HI hiL2;go_wp2;go_ret2;exact Or.inl ⟨HR.out.1,sb,b,rfl,HR.out.2⟩
end Go.Proofs.YtaigdcmoecgabaaGreat.O
