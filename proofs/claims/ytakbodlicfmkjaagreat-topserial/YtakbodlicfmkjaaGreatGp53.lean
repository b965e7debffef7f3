/- Contracts and lemmas. -/
import Derived.Test.YtakbodlicfmkjaaGreatGp46
import Derived.Test.YtakbodlicfmkjaaGreatGp48
import Derived.Shelf.SlSortCmp.NoneTotal
set_option maxHeartbeats 4000000
set_option maxRecDepth 100000
set_option linter.unusedSimpArgs false
set_option linter.unusedVariables false
namespace Go.Proofs.YtakbodlicfmkjaaGreat.Fo
open Go.ChangeShapes Go.WideShapes Go.ChangeAt Go.RowKit Go.Lib Go.Maps Go.Sort Go.Shelf
structure EOut(w w':World)(ro:Option Addr)(N rc:Nat)(ps:List Pr):Prop where
 len:N=ps.length
 row:w'.ownsRow w.heap.size 61 2 (.slice ro N rc) N (celsE ps)
theorem own_base{w:World}{base base':Nat}{e:TypeId}{size:Nat}{v:Value}{n:Nat}{xs:List Value}(h:w.ownsRow base e size v n xs)(hb:base'<=base):w.ownsRow base' e size v n xs:=by
 refine⟨h.1,?_⟩;rcases h.2 with h0|⟨g,cap,cur,hv,hg,hr⟩
 .exact Or.inl h0
 exact Or.inr ⟨g,cap,cur,hv,by omega,hr⟩
theorem zyf(base:Nat)(v:Value)(ps:List Pr)(w:World)(hrow:w.ownsRow base 61 2 v ps.length (celsE ps))(hlen:ps.length<1099511627776) :
  Calls Tryz.prog 73 #[v,.func (.func 41) #[] #[]] w fun e w'=>e=.returned (.tuple #[])/\∃ds,ds.Perm ps/\Sd ds/\w'.ownsRow base 61 2 v ps.length (celsE ds)/\Fr v.ownBlock.toList w w':=by
 rcases hrow.2 with⟨rfl,h0⟩|⟨g,cap,cur,rfl,_⟩
 .have hcon:=AnyF.slices_SortFunc_none Tryz.sortEn none 0 (.func (.func 41) #[] #[]) w
  change Calls Tryz.prog 73 _ _ _ at hcon
  obtain rfl:ps=[]:=List.eq_nil_of_length_eq_zero h0;refine hcon.mono ?_;rintro e w'⟨rfl,rfl⟩;exact⟨rfl,[],List.Perm.refl _,List.Pairwise.nil,hrow,Fr.refl _ _⟩
 exact zil base g cap ps w hrow hlen
theorem zms(b Bm nn:Nat)(E:ByteArray->Option ByteArray)(w:World)(hM:MapE w b nn E)(hn:nn<1099511627776)(hBm:Bm<w.heap.size)(hm:w.cell? ⟨Bm,0,none⟩=some (.map (some b))) :
  Calls Tryz.prog 39 #[.func (.func 74) #[] #[.pointer (some ⟨Bm,0,none⟩)],.func (.func 41) #[] #[]] w fun e w'=>∃(v:Value)(ps:List Pr),e=.returned v/\Is E ps/\w'.ownsRow w.heap.size 61 2 v ps.length (celsE ps)/\Fr [] w w':=by
 have HC:Hid _:=zmn b Bm nn E w hM hn hBm hm;clear hM hm;go_enter Tryz.func39,Tryz.ntmps39;go_wp2_with fail
 refine Calls.mono HC.out ?_;rintro e w1⟨v,ps,rfl,hA,hrow,hF1⟩;have HS:Hid _:=zyf w.heap.size v ps w1 hrow (by have:=hA.2;omega);have HA:Hid (AllP E ps):=hA.1;have HR:Hid (∀k,v.ownBlock=some k->w.heap.size<=k):=fun k hk=>(owns_cells hrow hk).1;clear HC hA hrow;go_wp2_with fail
 refine Calls.mono HS.out ?_;rintro e w2⟨rfl,ds,hp,hs,hrow2,hF2⟩;have HG:Hid (Is E ds/\w2.ownsRow w.heap.size 61 2 v ds.length (celsE ds)/\Fr [] w w2):=⟨is_sorted HA.out hp hs,by rw[hp.length_eq];exact hrow2,hF1.on hF2 (fun x hx=>by simp only[Option.mem_toList]at hx;exact HR.out x hx)⟩;clear HS HA HR hp hs hrow2 hF1 hF2;go_wp2;go_ret;exact⟨v,ds,rfl,HG.out⟩
def ScTold(l:List Tx)(f:Int)(key en:ByteArray)(ps:List Pr)(c:Nat):Prop:=
 CoTold l f c/\((c≠0/\ps=[])\/(c=0/\Is (call (inS key en) (fun _=>none) (l.take f.toNat)) ps))
theorem own_shape2{w:World}{base:Nat}{e:TypeId}{v:Value}{n:Nat}{xs:List Value}(h:w.ownsRow base e 2 v n xs):∃ao cap,v=.slice ao n cap:=by
 rcases h.2 with⟨rfl,h0⟩|⟨g,cap,_,rfl,_⟩
 .exact⟨none,0,by rw[h0]⟩
 exact⟨_,cap,rfl⟩
theorem zyg(ao:Option Addr)(L cap:Nat)(f:Int)(key en:ByteArray)(ps:List Pr)(N c:Nat)(ts:List Tm)(w:World)(hT:TRs w ao ts)(hLe:L=ts.length)(hcap:L<=cap)(hf0: -9223372036854775808<=f)(hf1:f<=9223372036854775807)(h:ScTold (txs ts) f key en ps c)(hN:N=ps.length) :
  Calls Tryz.prog 20 #[.slice ao L cap,.int .i64 f,.string key,.string en] w fun e w'=>∃ro rc,e=.returned (.tuple #[.slice ro N rc,.int .i64 (c:Int)])/\EOut w w' ro N rc ps/\Fr [] w w':=by
 have HL:Hid (L=ts.length):=hLe;have HI:Hid (∀W,Fr [] w W->TRs W ao ts):=fun W hf=>hT.keep hf;obtain⟨hc,⟨h0,rfl⟩|⟨rfl,hI⟩⟩:=h
 .have HC:Hid (CoTold (txs ts) f c/\c≠0):=⟨hc,h0⟩;have hcb:((c:Int) != 0)=true:=by rw[bne_iff_ne];omega
  obtain rfl:N=0:=hN;clear hc h0 hLe;go_enter Tryz.func20,Tryz.ntmps20;go_wp2_with fail
  refine (zkj key en _).mono ?_;rintro e w1⟨b,b2,rfl,hb,hb2,hbl,hbl2,hF1⟩;go_wp2_with fail
  refine (zzy ao L cap f c ts b b2 key en _ (HI.out _ hF1) HL.out hf0 hf1 HC.out.1 HC.out.2).mono ?_;rintro e w2⟨rfl,hF2⟩;have hG:=hF1.then hF2;clear hb hbl hF1 hF2 hb2 hbl2;go_wp2;go_ret2;exact⟨none,0,rfl,⟨rfl,⟨rfl,.inl ⟨rfl,rfl⟩⟩⟩,hG⟩
 obtain⟨hok,hfn,hfl⟩:=hc.ok0;obtain⟨f',rfl⟩:∃f':Nat,f=(f':Int):=⟨f.toNat,by omega⟩;have HO:Hid (okL 1 (txs ts)/\f'<=L):=⟨hok,by rw[zau]at hfl;omega⟩;rw[Int.toNat_natCast]at hI
 obtain⟨E,hE⟩:∃E,E=call (inS key en) (fun _=>none) ((txs ts).take f'):=⟨_,rfl⟩;rw[<-hE]at hI
 have HIs:Hid (Is E ps/\N=ps.length):=⟨hI,hN⟩;clear hc hok hfl hfn hLe hI hN;go_enter Tryz.func20,Tryz.ntmps20;go_wp2_with fail
 refine (zkj key en _).mono ?_;rintro e w1⟨b,b2,rfl,hb,hb2,hbl,hbl2,hF1⟩;go_wp2_with fail
 refine (zzz ao L cap f' ts b b2 key en _ (HI.out _ hF1) HL.out hcap hb hb2 HO.out.1 HO.out.2).mono ?_;rintro e w2⟨m,rfl,hm,hM,hF2⟩;rw[<-hE]at hM
 have hG:=hF1.then hF2;clear hb hbl hF1 hF2 hE hb2 hbl2;go_wp2_with fail
 refine (zub _ _).mono ?_;rintro e w3⟨rfl,hw3⟩;have hF3:Fr [] w2 w3:=by rw[hw3];exact Fr.alloc _ _ _
 have hbx:w3.heap[w2.heap.size]? = some (.cells #[.map (some m)] 108 (0,0)):=by rw[hw3];exact heap_alloc_new _ _
 have hM3:=hM.keep hF3 (by simp);have hG3:=hG.then hF3;have hcx:w3.cell? ⟨w2.heap.size,0,none⟩=some (.map (some m)):=by rw[crw hbx];rfl
 have HS:Hid _:=zms m w2.heap.size 9000000 E w3 hM3 (by omega) (lt_of_block hbx) hcx;clear hw3 hM hM3 hcx hbx hF3 hG;go_wp2_with fail
 refine Calls.mono HS.out ?_;rintro e w4⟨v,qs,rfl,hQ,hrow,hF4⟩;have hqp:ps=qs:=HIs.out.1.unique hQ;subst hqp;obtain⟨ro,rc,rfl⟩:=own_shape2 hrow;have HR:Hid (EOut w w4 ro N rc ps/\Fr [] w w4):=⟨⟨HIs.out.2,by rw[HIs.out.2];exact own_base hrow hG3.size⟩,hG3.then hF4⟩;rw[<-HIs.out.2];clear HS hQ hrow hF4 hG3 HIs;go_wp2;go_ret2;exact⟨ro,rc,rfl,HR.out⟩
theorem fStore_any(ao:Option Addr)(L cap:Nat)(f:Int)(ps:List Pr)(N c:Nat)(ts:List Tm)(w:World)(hT:TRs w ao ts)(hLe:L=ts.length)(hcap:L<=cap)(hf0: -9223372036854775808<=f)(hf1:f<=9223372036854775807)(h:ScTold (txs ts) f ⟨#[]⟩ ⟨#[]⟩ ps c)(hN:N=ps.length) :
  Calls Tryz.prog 8 #[.slice ao L cap,.int .i64 f] w fun e w'=>∃ro rc,e=.returned (.tuple #[.slice ro N rc,.int .i64 (c:Int)])/\EOut w w' ro N rc ps/\Fr [] w w':=by
 have HS:Hid _:=zyg ao L cap f ⟨#[]⟩ ⟨#[]⟩ ps N c ts w hT hLe hcap hf0 hf1 h hN;clear hT hLe h hN;go_enter Tryz.func8,Tryz.ntmps8;go_wp2_with fail
 refine Calls.mono HS.out ?_;rintro e w1⟨ro,rc,rfl,hE,hF⟩;have HR:Hid (EOut w w1 ro N rc ps/\Fr [] w w1):=⟨hE,hF⟩;clear HS hE hF;go_wp2;go_ret2;exact⟨ro,rc,rfl,HR.out⟩
theorem zqr{α:Type}(p q:α->Bool)(h:∀x,p x=true->q x=false):∀l:List α,(l.filter p).length+(l.filter q).length<=l.length
 | []=>by simp
 |x::l=>by
  have ih:=zqr p q h l;cases hp:p x with
  |true=>simp[hp,h x hp];omega
  |false=>
   cases hq:q x with
   |true=>simp[hp,hq];omega
   |false=>simp[hp,hq];omega
theorem zqs(ps:List Pr)(x:Wt):(wrote ps x).length<=ps.length+1:=by
 have h:=zqr (fun p:Pr=>Op.bytesLess p.1.toList x.key.toList) (fun p:Pr=>Op.bytesLess x.key.toList p.1.toList) (fun p hp=>zos hp) ps;unfold wrote;rw[List.length_append,List.length_append];have:(if x.drop=true then ([]:List Pr) else [(x.key,x.val)]).length<=1:=by by_cases hd:x.drop=true<;>simp[hd]
 omega
theorem zkm:∀(ws:List Wt)(E:ByteArray->Option ByteArray)(ps:List Pr),Is E ps->∃qs,Is (capplys (fun _=>true) E ws) qs/\qs.length<=ps.length+ws.length
 | [],E,ps,h=>⟨ps,h,by simp⟩
 |x::ws,E,ps,h=>by
  have h1:Is (capply (fun _=>true) E x) (wrote ps x):=by unfold capply;rw[if_pos rfl];exact h.write x
  obtain⟨qs,hq,hl⟩:=zkm ws _ _ h1;exact⟨qs,hq,by have:=zqs ps x;simp;omega⟩
theorem zqt:∀(l:List Tx)(E:ByteArray->Option ByteArray)(ps:List Pr),Is E ps->(∀t∈l,t.ws.length<=32)->∃qs,Is (call (fun _=>true) E l) qs/\qs.length<=ps.length+32*l.length
 | [],E,ps,h,_=>⟨ps,h,by simp⟩
 |t::l,E,ps,h,hw=>by
  obtain⟨qs,hq,hl⟩:=zkm t.ws E ps h;obtain⟨rs,hr,hl2⟩:=zqt l _ _ hq (fun t' ht=>hw t' (List.mem_cons_of_mem _ ht));have:=hw t (by simp);exact⟨rs,hr,by simp;omega⟩
theorem fo_len(l:List Tx)(hw:∀t∈l,t.ws.length<=32):∃ps,Is (fo l) ps/\ps.length<=32*l.length:=by
 obtain⟨qs,h1,h2⟩:=zqt l _ _ Is.nil hw;exact⟨qs,h1,by simpa using h2⟩
theorem zkv(s:ByteArray):inS ⟨#[]⟩ ⟨#[]⟩ s=true:=by
 have hE0:(⟨#[]⟩:ByteArray).toList=[]:=(zbm _).2 rfl;unfold inS;rw[hE0];cases s.toList<;>simp[Op.bytesLess]
theorem sc_of{l:List Tx}{f:Nat}{ps:List Pr}(hok:okL 1 l)(hf:f<=l.length)(h:Is (fo (l.take f)) ps):ScTold l (f:Int) ⟨#[]⟩ ⟨#[]⟩ ps 0:=
 ⟨Or.inr (Or.inr ⟨hok,⟨by omega,by omega⟩,rfl⟩),Or.inr ⟨rfl,by rw[Int.toNat_natCast];exact h.cong (fun s=>by rw[zadx,if_pos (zkv s)])⟩⟩
end Go.Proofs.YtakbodlicfmkjaaGreat.Fo
