/- Contracts and lemmas. -/
import Derived.Test.YtojjdnjfaelnfaaGreatDoorGp5
import Derived.Test.YtojjdnjfaelnfaaGreatDoorGp18
set_option maxHeartbeats 8000000
set_option maxRecDepth 100000
set_option linter.unusedSimpArgs false
set_option linter.unusedVariables false
namespace Go.Proofs.YtojjdnjfaelnfaaGreatDoor.F
open Go.ChangeShapes Go.WideShapes Go.ChangeAt Go.RowKit Go.Lib Go.Maps Go.Proofs.Tryz
structure Fe where
 rd:Nat
 fd:Nat
 wn:Nat
 hv:Bool
 cl:Bool
def Fe.num(s:Fe):Nat:=if s.hv=true then s.rd else 0
def Fe.near(s:Fe)(mark:Int):Bool:=decide ((s.rd:Int)-s.wn<=mark)
def Fe.can(s:Fe)(bs:List Int)(mark:Int):Nat:=if s.hv=false then (if s.cl=false/\s.rd<s.fd then 1 else 0) else if (s.rd:Int)∈bs then 2 else if s.near mark=true then 3 else 0
def Fe.moreC(s:Fe)(L:Nat)(last:Int):Nat:=if s.cl=true then 12 else if last<s.fd\/(L:Int)<last then 1 else 0
def Fe.moreS(s:Fe)(L:Nat)(last:Int):Fe:=if s.moreC L last=0 then {s with fd:=last.toNat} else s
def Fe.readC(s:Fe):Nat:=if s.hv=true then 10 else if s.cl=true then 12 else if s.fd<=s.rd then 9 else 0
def Fe.readN(s:Fe):Nat:=if s.readC=0 then s.rd+1 else 0
def Fe.readS(s:Fe):Fe:=if s.readC=0 then {s with rd:=s.rd+1,hv:=true} else s
def Fe.disC(s:Fe)(bs:List Int)(mark:Int):Nat:=if s.hv=false then 9 else if (s.rd:Int)∈bs\/s.near mark=false then 6 else 0
def Fe.disS(s:Fe)(bs:List Int)(mark:Int):Fe:=if s.disC bs mark=0 then {s with hv:=false} else s
structure Bey(F:Int->Option Unit)(bs:List Int)(s:Fe):Prop where
 ahead:∀x:Int,i64 x->(s.rd:Int)<x->(F x).isSome=decide (x∈bs)
 now:s.hv=true->(F s.rd).isSome=decide ((s.rd:Int)∈bs)
structure FdM(w0 w:World)(f g lb L:Nat)(ts:List Tm)(v:Value)(qs:List Nat)(mb:Nat)(bs:List Int)(s:Fe)(hw:Value):Prop where
 src:Src w0 w g lb L ts v qs
 ok:okL 1 (txs ts)
 box:w.heap[f]? = some (.cells #[.pointer (some ⟨g,0,none⟩),.int .i64 (s.rd:Int),.int .i64 (s.fd:Int),.int .i64 (s.wn:Int),.map (some mb),.int .i64 (s.num:Int),hw,.bool s.cl] 227 (0,0))
 map:∃n F,MapG kBey w mb n F/\Bey F bs s
 rf:s.rd<=s.fd
 fl:s.fd<=L
 wn:1<=s.wn/\s.wn<=64
 held:s.hv=true->1<=s.rd/\∃k,hw=.slice (some ⟨k,0,none⟩) (ts.getD (s.rd-1) Tm.zero).L (ts.getD (s.rd-1) Tm.zero).L/\w.heap[k]? = some (.cells (wtsC (ts.getD (s.rd-1) Tm.zero).ws).toArray 91 (0,0))/\w0.heap.size<=k
 slot:∃o n c,hw=.slice o n c
 fn:w0.heap.size<=f
 mn:w0.heap.size<=mb
section
variable{w0 w w':World}{f g lb L:Nat}{ts:List Tm}{v:Value}{qs:List Nat}{mb:Nat}{bs:List Int}{s:Fe}{hw:Value}
theorem FdM.lt(h:FdM w0 w f g lb L ts v qs mb bs s hw):f<w.heap.size:=lt_of_block h.box
theorem FdM.mlt(h:FdM w0 w f g lb L ts v qs mb bs s hw):mb<w.heap.size:=by obtain⟨n,F,hm,_⟩:=h.map;exact hm.lt
theorem FdM.c0(h:FdM w0 w f g lb L ts v qs mb bs s hw):w.cell? ⟨f,0,none⟩=some (.pointer (some ⟨g,0,none⟩)):=by simp[World.cell?,h.box]
theorem FdM.c1(h:FdM w0 w f g lb L ts v qs mb bs s hw):w.cell? ⟨f,1,none⟩=some (.int .i64 (s.rd:Int)):=by simp[World.cell?,h.box]
theorem FdM.c2(h:FdM w0 w f g lb L ts v qs mb bs s hw):w.cell? ⟨f,2,none⟩=some (.int .i64 (s.fd:Int)):=by simp[World.cell?,h.box]
theorem FdM.c3(h:FdM w0 w f g lb L ts v qs mb bs s hw):w.cell? ⟨f,3,none⟩=some (.int .i64 (s.wn:Int)):=by simp[World.cell?,h.box]
theorem FdM.c4(h:FdM w0 w f g lb L ts v qs mb bs s hw):w.cell? ⟨f,4,none⟩=some (.map (some mb)):=by simp[World.cell?,h.box]
theorem FdM.c5(h:FdM w0 w f g lb L ts v qs mb bs s hw):w.cell? ⟨f,5,none⟩=some (.int .i64 (s.num:Int)):=by simp[World.cell?,h.box]
theorem FdM.c6(h:FdM w0 w f g lb L ts v qs mb bs s hw):w.cell? ⟨f,6,none⟩=some hw:=by simp[World.cell?,h.box]
theorem FdM.c7(h:FdM w0 w f g lb L ts v qs mb bs s hw):w.cell? ⟨f,7,none⟩=some (.bool s.cl):=by simp[World.cell?,h.box]
theorem FdM.fz(h:FdM w0 w f g lb L ts v qs mb bs s hw)(j:Nat):w.frozen? ⟨f,j,none⟩=false:=by simp[World.frozen?,h.box]
theorem FdM.keepS{S:List Nat}(h:FdM w0 w f g lb L ts v qs mb bs s hw)(hf:Fr S w w')(hS:∀k∈S,∀o,w.heap[k]? = some o->(∃cs t,o=.cells cs t (0,0)/\t≠227/\t≠211/\t≠108/\t≠91/\(t=3->v.ownBlock≠some k))):FdM w0 w' f g lb L ts v qs mb bs s hw:=by
 have hno:∀k cs t,w.heap[k]? = some (.cells cs t (0,0))->(t=227\/t=211\/t=108\/t=91)->k∉S:=by
  intro k cs t hk ht hm;obtain⟨cs',t',e,a1,a2,a3,a4,_⟩:=hS k hm _ hk;cases e;rcases ht with rfl|rfl|rfl|rfl
  .exact a1 rfl
  .exact a2 rfl
  .exact a3 rfl
  exact a4 rfl
 have hs:=h.src;refine⟨⟨hf.keep hs.box (hno _ _ _ hs.box (by simp)),hf.keep hs.log (hno _ _ _ hs.log (by simp)),hs.len,hs.few,fun t ht=>(hs.each t ht).keepS hf (fun k hk=>hno _ _ _ hk (by simp)),zaj hs.row hf (fun k hk hm=> ?_),hs.gn,hs.ln,hs.rn⟩,h.ok,hf.keep h.box (hno _ _ _ h.box (by simp)),?_,h.rf,h.fl,h.wn,fun hv=> ?_,h.slot,h.fn,h.mn⟩
 .obtain⟨cur,hc⟩:=hs.rowNe hk;obtain⟨cs',t',e,_,_,_,_,a5⟩:=hS k hm _ hc;cases e;exact a5 rfl hk
 .obtain⟨n,F,hm,hb⟩:=h.map;refine⟨n,F,hm.keep hf (fun hx=> ?_),hb⟩;obtain⟨es,c,he⟩:=hm.block;obtain⟨cs',t',e,_⟩:=hS mb hx _ he;cases e
 obtain⟨h1,k,e,hk,hn⟩:=h.held hv;exact⟨h1,k,e,hf.keep hk (hno _ _ _ hk (by simp)),hn⟩
theorem FdM.keep(h:FdM w0 w f g lb L ts v qs mb bs s hw)(hf:Fr [] w w'):FdM w0 w' f g lb L ts v qs mb bs s hw:=h.keepS hf (by simp)
theorem FdM.numOf(h:FdM w0 w f g lb L ts v qs mb bs s hw)(n:Nat)(hn:1<=n)(hnL:n<=L):(ts.getD (n-1) Tm.zero).n=(n:Int):=by
 have hl:=h.src.len;have:=(zea h.ok (n-1) (by rw[zah];omega)).2;rw[zeb]at this
 have e:((1+(n-1):Nat):Int)=n:=by omega
 rw[<-e,<-this];rfl
theorem FdM.few(h:FdM w0 w f g lb L ts v qs mb bs s hw):L<=65536:=h.src.few
theorem zgt{b j:Nat}{cs:Array Value}(x:Value)(h:w.heap[b]? = some (.cells cs 227 (0,0))):(w.setCell ⟨b,j,none⟩ x).heap[b]? = some (.cells (cs.setIfInBounds j x) 227 (0,0)):=row_setCell x h
end
section
variable{w0 w w':World}{f g lb L:Nat}{ts:List Tm}{v:Value}{qs:List Nat}{mb:Nat}{bs:List Int}{s:Fe}{hw:Value}
theorem zew(h:FdM w0 w f g lb L ts v qs mb bs s hw):Calls prog 131 #[.pointer (some ⟨f,0,none⟩)] w fun e w'=>e=.returned (.bool true)/\w=w':=by
 have c0:=h.c0;clear h;go_enter func131,ntmps131;go_wp2;go_ret;exact⟨rfl,rfl⟩
theorem FdM.upd(h:FdM w0 w f g lb L ts v qs mb bs s hw){s':Fe}{hw':Value}(hf:Fr [f] w w')(hbox:w'.heap[f]? = some (.cells #[.pointer (some ⟨g,0,none⟩),.int .i64 (s'.rd:Int),.int .i64 (s'.fd:Int),.int .i64 (s'.wn:Int),.map (some mb),.int .i64 (s'.num:Int),hw',.bool s'.cl] 227 (0,0)))(hrd:s'.rd=s.rd)(hwn:s'.wn=s.wn)(hrf:s'.rd<=s'.fd)(hfl:s'.fd<=L)(hh:s'.hv=true->s.hv=true/\hw'=hw)(hsl:∃o n c,hw'=.slice o n c):FdM w0 w' f g lb L ts v qs mb bs s' hw':=by
 have hs:=h.src;have hno:∀k cs t,w.heap[k]? = some (.cells cs t (0,0))->t≠227->k∉[f]:=by
  intro k cs t hk ht hm;simp only[List.mem_singleton]at hm;subst hm;rw[h.box]at hk
  cases hk;exact ht rfl
 refine⟨⟨hf.keep hs.box (hno _ _ _ hs.box (by decide)),hf.keep hs.log (hno _ _ _ hs.log (by decide)),hs.len,hs.few,fun t ht=>(hs.each t ht).keepS hf (fun k hk=>hno _ _ _ hk (by decide)),zaj hs.row hf (fun k hk=> ?_),hs.gn,hs.ln,hs.rn⟩,h.ok,hbox,?_,hrf,hfl,by rw[hwn];exact h.wn,fun hv=> ?_,hsl,h.fn,h.mn⟩
 .obtain⟨cur,hc⟩:=hs.rowNe hk;exact hno _ _ _ hc (by decide)
 .obtain⟨n,F,hm,hb⟩:=h.map;refine⟨n,F,hm.keep hf (fun hx=> ?_),⟨fun x hx hlt=>hb.ahead x hx (by rw[hrd]at hlt;exact hlt),fun hv=>by rw[hrd];exact hb.now (hh hv).1⟩⟩;simp only[List.mem_singleton]at hx;subst hx;obtain⟨es,c,he⟩:=hm.block;rw[h.box]at he
  cases he
 obtain⟨h1,h2⟩:=hh hv;obtain⟨h3,k,e,hk,hn⟩:=h.held h1;rw[h2,hrd];exact⟨h3,k,e,hf.keep hk (hno _ _ _ hk (by decide)),hn⟩
end
section
variable{w0 w w':World}{f g lb L:Nat}{ts:List Tm}{v:Value}{qs:List Nat}{mb:Nat}{bs:List Int}{s:Fe}{hw:Value}
theorem zho(h:FdM w0 w f g lb L ts v qs mb bs s hw)(hv:s.hv=false):Calls prog 272 #[.pointer (some ⟨f,0,none⟩)] w fun e w'=>e=.returned (.int .u8 1)/\Fr [] w w':=by
 have c5:=h.c5;simp only[Fe.num,hv,Bool.false_eq_true,if_false]at c5;clear h hv;go_enter func272,ntmps272;go_wp2;go_ret;exact⟨rfl,Fr.refl _ _⟩
theorem FdM.look(h:FdM w0 w f g lb L ts v qs mb bs s hw)(hv:s.hv=true):w.cell? ⟨f,5,none⟩=some (.int .i64 (s.rd:Int))/\w.cell? ⟨f,4,none⟩=some (.map (some mb))/\(Instr.lookup 225 (.map (some mb)) (.int .i64 (s.rd:Int)) true).run prog w=.ok (.tuple #[.agg #[],.bool (decide ((s.rd:Int)∈bs))]) w:=by
 have hfew:=h.few;have hr1:=h.rf;have hr2:=h.fl;obtain⟨n,F,hm,hy⟩:=h.map;have hl:=hm.lookOk (s.rd:Int) ⟨by omega,by omega⟩;rw[hy.now hv]at hl
 have e5:=h.c5;simp only[Fe.num,hv,if_true]at e5;exact⟨e5,h.c4,hl⟩
theorem zhp(h:FdM w0 w f g lb L ts v qs mb bs s hw)(hv:s.hv=true)(hb:(s.rd:Int)∈bs):Calls prog 272 #[.pointer (some ⟨f,0,none⟩)] w fun e w'=>e=.returned (.int .u8 2)/\Fr [] w w':=by
 have HK:Hid (∀W,Fr [] w W->W.cell? ⟨f,5,none⟩=some (.int .i64 (s.rd:Int))/\W.cell? ⟨f,4,none⟩=some (.map (some mb))/\(Instr.lookup 225 (.map (some mb)) (.int .i64 (s.rd:Int)) true).run prog W=.ok (.tuple #[.agg #[],.bool true]) W):=fun W hf=>by
  have:=(h.keep hf).look hv;rw[decide_eq_true hb]at this
  exact this
 obtain⟨c5,c4,hlk⟩:=HK.out w (Fr.refl _ _);have hr0:=(h.held hv).1;have hfew:=h.few;have hr1:=h.rf;have hr2:=h.fl;obtain⟨rd,hrd⟩:∃rd,s.rd=rd:=⟨_,rfl⟩;rw[hrd]at HK c5 hlk hr0 hr1
 have hne:((rd:Int)==0)=false:=by rw[beq_eq_false_iff_ne];omega
 clear h hb hrd hv;go_enter func272,ntmps272;go_wp2_with fail
 go_region_held3 (fun W=>W.cell? ⟨f,5,none⟩=some (.int .i64 (rd:Int))/\W.cell? ⟨f,4,none⟩=some (.map (some mb))/\(Instr.lookup 225 (.map (some mb)) (.int .i64 (rd:Int)) true).run prog W=.ok (.tuple #[.agg #[],.bool true]) W) (first
  |exact HK.out _ (Fr.refl _ _)|exact HK.out _ (Fr.drew _ _)|exact HK.out _ (Fr.then (Fr.drew _ _) (Fr.alloc _ _ _))|exact HK.out _ (Fr.alloc _ _ _)) (first|fail)
 all_goals (
  go_wp2;go_ret;exact⟨rfl,(Fr.alloc _ _ _).then (Fr.drew _ _)⟩)
theorem zfv(h:FdM w0 w f g lb L ts v qs mb bs s hw)(hv:s.hv=true)(hb:¬(s.rd:Int)∈bs):Calls prog 272 #[.pointer (some ⟨f,0,none⟩)] w fun e w'=>e=.returned (.int .u8 3)/\Fr [] w w':=by
 have HK:Hid (∀W,Fr [] w W->W.cell? ⟨f,5,none⟩=some (.int .i64 (s.rd:Int))/\W.cell? ⟨f,4,none⟩=some (.map (some mb))/\(Instr.lookup 225 (.map (some mb)) (.int .i64 (s.rd:Int)) true).run prog W=.ok (.tuple #[.agg #[],.bool false]) W):=fun W hf=>by
  have:=(h.keep hf).look hv;rw[decide_eq_false hb]at this
  exact this
 obtain⟨c5,c4,hlk⟩:=HK.out w (Fr.refl _ _);have hr0:=(h.held hv).1;have hfew:=h.few;have hr1:=h.rf;have hr2:=h.fl;obtain⟨rd,hrd⟩:∃rd,s.rd=rd:=⟨_,rfl⟩;rw[hrd]at HK c5 hlk hr0 hr1
 have hne:((rd:Int)==0)=false:=by rw[beq_eq_false_iff_ne];omega
 clear h hb hrd hv;go_enter func272,ntmps272;go_wp2_with fail
 go_region_held3 (fun W=>W.cell? ⟨f,5,none⟩=some (.int .i64 (rd:Int))/\W.cell? ⟨f,4,none⟩=some (.map (some mb))/\(Instr.lookup 225 (.map (some mb)) (.int .i64 (rd:Int)) true).run prog W=.ok (.tuple #[.agg #[],.bool false]) W) (first
  |exact HK.out _ (Fr.refl _ _)|exact HK.out _ (Fr.drew _ _)|exact HK.out _ (Fr.then (Fr.drew _ _) (Fr.alloc _ _ _))|exact HK.out _ (Fr.alloc _ _ _)) (first|fail)
 all_goals (
  go_wp2;go_ret;exact⟨rfl,(Fr.alloc _ _ _).then (Fr.drew _ _)⟩)
theorem zis(h:FdM w0 w f g lb L ts v qs mb bs s hw)(hv:s.hv=true)(mark:Int):Calls prog 273 #[.pointer (some ⟨f,0,none⟩),.int .i64 mark] w fun e w'=>e=.returned (.bool (s.near mark))/\Fr [] w w':=by
 obtain⟨rd,fd,wn,hv,cl⟩:=s;simp only at hv;subst hv;have hfew:=h.few;have hr1:=h.rf;have hr2:=h.fl;have hw1:=h.wn;have c5:w.cell? ⟨f,5,none⟩=some (.int .i64 (rd:Int)):=h.c5;have c3:w.cell? ⟨f,3,none⟩=some (.int .i64 (wn:Int)):=h.c3;simp only at hr1 hr2 hw1;have HE:Hid (Fe.near ⟨rd,fd,wn,true,cl⟩ mark=decide ((rd:Int)-wn<=mark)):=rfl;rw[HE.out];clear h;go_enter func273,ntmps273;go_wp2_with fail
 go_quiet (fail)
 go_wp2;go_ret;exact⟨rfl,Fr.drewN _ _ _⟩
theorem fMore_any(h:FdM w0 w f g lb L ts v qs mb bs s hw)(last:Int):Calls prog 112 #[.pointer (some ⟨f,0,none⟩),.int .i64 last] w fun e w'=>e=.returned (.int .i64 (s.moreC L last:Int))/\FdM w0 w' f g lb L ts v qs mb bs (s.moreS L last) hw/\Fr [f] w w':=by
 have HT:Hid (Calls ..):=zew h;have HL:Hid (Calls ..):=zno h.src;have HH:Hid (FdM w0 w f g lb L ts v qs mb bs s hw):=h;have c0:=h.c0;have c2:=h.c2;have c7:=h.c7;have z2:=h.fz 2;have hfew:=h.few;have hr1:=h.rf;have hr2:=h.fl;clear h;by_cases hcl:s.cl=true
 .have e1:s.moreC L last=12:=by simp[Fe.moreC,hcl]
  have e2:s.moreS L last=s:=by simp[Fe.moreS,e1]
  rw[hcl]at c7
  rw[e1,e2];clear e1 e2 hcl;go_enter func112,ntmps112;go_wp2_with fail
  refine Calls.mono HT.out ?_;rintro e w1⟨rfl,rfl⟩;go_wp2;go_ret;exact⟨rfl,HH.out,Fr.refl _ _⟩
 have hcf:s.cl=false:=by simpa using hcl
 rw[hcf]at c7
 by_cases h1:last<(s.fd:Int)
 .have e1:s.moreC L last=1:=by simp[Fe.moreC,hcf,h1]
  have e2:s.moreS L last=s:=by simp[Fe.moreS,e1]
  rw[e1,e2];have hd:decide (last<(s.fd:Int))=true:=by simpa using h1
  clear e1 e2 hcl hcf;go_enter func112,ntmps112;go_wp2_with fail
  refine Calls.mono HT.out ?_;rintro e w1⟨rfl,rfl⟩;go_wp2;go_ret;exact⟨rfl,HH.out,Fr.refl _ _⟩
 have hd:decide (last<(s.fd:Int))=false:=by simpa using h1
 by_cases h2:(L:Int)<last
 .have e1:s.moreC L last=1:=by simp[Fe.moreC,hcf,h2]
  have e2:s.moreS L last=s:=by simp[Fe.moreS,e1]
  rw[e1,e2];clear e1 e2 hcl hcf;go_enter func112,ntmps112;go_wp2_with fail
  refine Calls.mono HT.out ?_;rintro e w1⟨rfl,rfl⟩;go_wp2_with fail
  refine Calls.mono HL.out ?_;rintro e w1⟨rfl,rfl⟩;go_wp2;go_ret;exact⟨rfl,HH.out,Fr.refl _ _⟩
 have e1:s.moreC L last=0:=by simp[Fe.moreC,hcf];omega
 have e2:s.moreS L last={s with fd:=last.toNat}:=by simp[Fe.moreS,e1]
 rw[e1,e2];obtain⟨n,rfl⟩:∃n:Nat,last=n:=⟨last.toNat,by omega⟩;have hF:Fr [f] w (w.setCell ⟨f,2,none⟩ (.int .i64 (n:Int))):=Fr.set _ _ _ (by simp);have HE:Hid (FdM w0 (w.setCell ⟨f,2,none⟩ (.int .i64 (n:Int))) f g lb L ts v qs mb bs {s with fd:=(n:Int).toNat} hw/\Fr [f] w (w.setCell ⟨f,2,none⟩ (.int .i64 (n:Int)))):=⟨HH.out.upd hF (by have:=zgt (j:=2) (.int .i64 (n:Int)) HH.out.box;exact this) rfl rfl (by simp only[Int.toNat_natCast];omega) (by simp only[Int.toNat_natCast];omega) (fun x=>⟨x,rfl⟩) HH.out.slot,hF⟩;clear e1 e2 hcl hcf hF HH;go_enter func112,ntmps112;go_wp2_with fail
 refine Calls.mono HT.out ?_;rintro e w1⟨rfl,rfl⟩;go_wp2_with fail
 refine Calls.mono HL.out ?_;rintro e w1⟨rfl,rfl⟩;go_wp2;go_ret;exact⟨rfl,HE.out⟩
end
section
variable{w0 w w':World}{f g lb L:Nat}{ts:List Tm}{v:Value}{qs:List Nat}{mb:Nat}{bs:List Int}{s:Fe}{hw:Value}
theorem FdM.notOwn(h:FdM w0 w f g lb L ts v qs mb bs s hw):f∉Src.own g v/\mb∉Src.own g v/\f≠mb:=by
 obtain⟨n,F,hm,_⟩:=h.map;obtain⟨es,c,he⟩:=hm.block;have hg:=h.src.box;refine⟨fun hx=> ?_,fun hx=> ?_,fun hx=> ?_⟩
 .simp only[Src.own,List.mem_cons,Option.mem_toList]at hx;rcases hx with rfl|hx
  .rw[h.box]at hg;simp at hg
  obtain⟨cur,hc⟩:=h.src.rowNe hx;rw[h.box]at hc;simp at hc
 .simp only[Src.own,List.mem_cons,Option.mem_toList]at hx;rcases hx with rfl|hx
  .rw[he]at hg;simp at hg
  obtain⟨cur,hc⟩:=h.src.rowNe hx;rw[he]at hc;simp at hc
 subst hx;rw[h.box]at he
 simp at he
theorem Src.off{w4 w5:World}{v':Value}{qs':List Nat}{B:Nat}{u y:Value}(h0:Src w0 w g lb L ts v qs)(h:Src w0 w4 g lb L ts v' qs')(hB:w.heap.size<=B)(hb:B2 w4 B u y)(hf:Fr [B] w4 w5):Src w0 w5 g lb L ts v' qs':=by
 have hg:=h0.lt;have hl:=lt_of_block h0.log;refine⟨hf.keep h.box (by simp;omega),hf.keep h.log (by simp;omega),h.len,h.few,fun t ht=>(h.each t ht).keepS hf (fun k hk hm=> ?_),zaj h.row hf (fun k hk hm=> ?_),h.gn,h.ln,h.rn⟩
 .simp only[List.mem_singleton]at hm;subst hm;rw[hb.box]at hk
  simp at hk
 simp only[List.mem_singleton]at hm;subst hm;exact h.apart hb.box (by decide) hk
theorem FdM.got(h:FdM w0 w f g lb L ts v qs mb bs s hw)(hc:s.readC=0){w5:World}{v':Value}{k tl:Nat}(htl:tl=(ts.getD s.rd Tm.zero).L)(hS:Src w0 w5 g lb L ts v' (qs++[s.rd+1]))(hF:Fr (Src.own g v) w w5)(hk:w.heap.size<=k)(hrow:w5.heap[k]? = some (.cells (wtsC (ts.getD s.rd Tm.zero).ws).toArray 91 (0,0))) :
  FdM w0 (((w5.setCell ⟨f,1,none⟩ (.int .i64 ((s.rd:Int)+1))).setCell ⟨f,5,none⟩ (.int .i64 ((s.rd:Int)+1))).setCell ⟨f,6,none⟩ (.slice (some ⟨k,0,none⟩) tl tl)) f g lb L ts v' (qs++[s.rd+1]) mb bs s.readS (.slice (some ⟨k,0,none⟩) tl tl)
   /\ Fr (f::Src.own g v) w (((w5.setCell ⟨f,1,none⟩ (.int .i64 ((s.rd:Int)+1))).setCell ⟨f,5,none⟩ (.int .i64 ((s.rd:Int)+1))).setCell ⟨f,6,none⟩ (.slice (some ⟨k,0,none⟩) tl tl)):=by
 subst htl;rw[show (s.rd:Int)+1=((s.rd+1:Nat):Int) from by omega];obtain⟨n1,n2,n3⟩:=h.notOwn;have hc':s.hv=false/\s.cl=false/\s.rd<s.fd:=by
  unfold Fe.readC at hc;by_cases a1:s.hv=true
  .simp[a1]at hc
  by_cases a2:s.cl=true
  .simp[a1,a2]at hc
  by_cases a3:s.fd<=s.rd
  .simp[a1,a2,a3]at hc
  exact⟨by simpa using a1,by simpa using a2,by omega⟩
 have hRS:s.readS={s with rd:=s.rd+1,hv:=true}:=by simp[Fe.readS,hc]
 have hbox5:=hF.keep h.box n1;have hF6:Fr [f] w5 (((w5.setCell ⟨f,1,none⟩ (.int .i64 ((s.rd+1:Nat):Int))).setCell ⟨f,5,none⟩ (.int .i64 ((s.rd+1:Nat):Int))).setCell ⟨f,6,none⟩ (.slice (some ⟨k,0,none⟩) (ts.getD s.rd Tm.zero).L (ts.getD s.rd Tm.zero).L)):=
  ((Fr.set _ _ _ (by simp)).then (Fr.set _ _ _ (by simp))).then (Fr.set _ _ _ (by simp))
 have hbox6:=zgt (j:=6) (.slice (some ⟨k,0,none⟩) (ts.getD s.rd Tm.zero).L (ts.getD s.rd Tm.zero).L) (zgt (j:=5) (.int .i64 ((s.rd+1:Nat):Int)) (zgt (j:=1) (.int .i64 ((s.rd+1:Nat):Int)) hbox5));have hno:∀k cs t,w5.heap[k]? = some (.cells cs t (0,0))->t≠227->k∉[f]:=by
  intro k cs t hk ht hm;simp only[List.mem_singleton]at hm;subst hm;rw[hbox5]at hk
  cases hk;exact ht rfl
 rw[hRS];refine⟨⟨⟨hF6.keep hS.box (hno _ _ _ hS.box (by decide)),hF6.keep hS.log (hno _ _ _ hS.log (by decide)),hS.len,hS.few,fun t ht=>(hS.each t ht).keepS hF6 (fun k hk=>hno _ _ _ hk (by decide)),zaj hS.row hF6 (fun k hk=> ?_),hS.gn,hS.ln,hS.rn⟩,h.ok,?_,?_,by show s.rd+1<=s.fd;omega,h.fl,h.wn,fun _=>⟨by show 1<=s.rd+1;omega,k,by simp,by
   simp only[Nat.add_sub_cancel];exact hF6.keep hrow (hno _ _ _ hrow (by decide)),?_⟩,⟨_,_,_,rfl⟩,h.fn,h.mn⟩,hF.trans hF6 (fun x hx _=>List.mem_cons_of_mem _ hx) (fun x hx _=>by simp at hx;subst hx;exact List.mem_cons_self)⟩
 .obtain⟨cur,hc⟩:=hS.rowNe hk;exact hno _ _ _ hc (by decide)
 .exact hbox6
 .obtain⟨n,F,hm,hb⟩:=h.map;refine⟨n,F,(hm.keep hF n2).keep hF6 (by simp;exact fun e=>n3 e.symm),⟨fun x hx hlt=>hb.ahead x hx (by simp only at hlt;omega),fun _=> ?_⟩⟩;have hfew:=h.few;have:=h.fl;have:=hb.ahead ((s.rd+1:Nat):Int) ⟨by omega,by omega⟩ (by omega);exact this
 have:=h.fn;have:=h.lt;omega
theorem fRead_any(h:FdM w0 w f g lb L ts v qs mb bs s hw)(hq:qs.length<2 ^ 40):Calls prog 269 #[.pointer (some ⟨f,0,none⟩)] w fun e w'=>e=.returned (.tuple #[.int .i64 (s.readN:Int),.int .i64 (s.readC:Int)]) /\
  ((s.readC≠0/\FdM w0 w' f g lb L ts v qs mb bs s hw/\Fr [] w w')\/(s.readC=0/\∃v' hw',FdM w0 w' f g lb L ts v' (qs++[s.rd+1]) mb bs s.readS hw'/\Fr (f::Src.own g v) w w'/\Moved w.heap.size v v'/\∃k n,hw'=.slice (some ⟨k,0,none⟩) n n/\w.heap.size<=k)):=by
 have HT:Hid (Calls ..):=zew h;have hfew:=h.few;have hr1:=h.rf;have hr2:=h.fl;by_cases hv:s.hv=true
 .have e1:s.readC=10:=by simp[Fe.readC,hv]
  have e2:s.readN=0:=by simp[Fe.readN,e1]
  rw[e1,e2];have HH:Hid (∀W,Fr [] w W->FdM w0 W f g lb L ts v qs mb bs s hw):=fun W hf=>h.keep hf;by_cases hb:(s.rd:Int)∈bs
  .have HU:Hid (Calls ..):=zhp h hv hb;clear h hv hb e1 e2;go_enter func269,ntmps269;go_wp2_with fail
   refine Calls.mono HT.out ?_;rintro e w1⟨rfl,rfl⟩;go_wp2_with fail
   refine Calls.mono HU.out ?_;rintro e w1⟨rfl,hF1⟩;go_wp2;go_ret2;exact⟨rfl,Or.inl ⟨by omega,HH.out _ hF1,hF1⟩⟩
  have HU:Hid (Calls ..):=zfv h hv hb;clear h hv hb e1 e2;go_enter func269,ntmps269;go_wp2_with fail
  refine Calls.mono HT.out ?_;rintro e w1⟨rfl,rfl⟩;go_wp2_with fail
  refine Calls.mono HU.out ?_;rintro e w1⟨rfl,hF1⟩;go_wp2;go_ret2;exact⟨rfl,Or.inl ⟨by omega,HH.out _ hF1,hF1⟩⟩
 have hv2:s.hv=false:=by simpa using hv
 have HU:Hid (Calls ..):=zho h hv2;have HH:Hid (∀W,Fr [] w W->FdM w0 W f g lb L ts v qs mb bs s hw):=fun W hf=>h.keep hf;by_cases hcl:s.cl=true
 .have e1:s.readC=12:=by simp[Fe.readC,hv2,hcl]
  have e2:s.readN=0:=by simp[Fe.readN,e1]
  rw[e1,e2];clear h hv hv2 e1 e2;go_enter func269,ntmps269;go_wp2_with fail
  refine Calls.mono HT.out ?_;rintro e w1⟨rfl,rfl⟩;go_wp2_with fail
  refine Calls.mono HU.out ?_;rintro e w1⟨rfl,hF1⟩;have c7:=(HH.out _ hF1).c7;rw[hcl]at c7
  go_wp2;go_ret2;exact⟨rfl,Or.inl ⟨by omega,HH.out _ hF1,hF1⟩⟩
 have hcf:s.cl=false:=by simpa using hcl
 by_cases hlt:s.rd<s.fd
 .have e1:s.readC=0:=by simp[Fe.readC,hv2,hcf];omega
  have e2:s.readN=s.rd+1:=by simp[Fe.readN,e1]
  obtain⟨tl,htl⟩:∃tl,tl=(ts.getD s.rd Tm.zero).L:=⟨_,rfl⟩;have HG:Hid (∀W,Fr [] w W->Calls prog 146 #[.pointer (some ⟨g,0,none⟩),.int .i64 (IntKind.i64.wrap ((s.rd:Int)+1))] W fun e w4=>∃k v',e=.returned (.tuple #[.agg #[.int .i64 ((s.rd:Int)+1),.slice (some ⟨k,0,none⟩) tl tl],.int .i64 0]) /\
    Hid (w.heap.size<=k/\w4.heap[k]? = some (.cells (wtsC (ts.getD s.rd Tm.zero).ws).toArray 91 (0,0))/\Src w0 w4 g lb L ts v' (qs++[s.rd+1])/\Fr (Src.own g v) w w4/\Moved w.heap.size v v')/\w4.cell? ⟨f,0,none⟩=some (.pointer (some ⟨g,0,none⟩))/\w4.cell? ⟨f,1,none⟩=some (.int .i64 (s.rd:Int))/\Hid (∀b u y,B2 W b u y->B2 w4 b u y)):=fun W hf=>by
   have hk:=h.keep hf;have hlt0:w0.heap.size<=W.heap.size:=by have:=h.fn;have:=hk.lt;omega
   have hg:=zaib hk.src (s.rd+1) (by omega) (by omega) hq hlt0 _ rfl;rw[show IntKind.i64.wrap ((s.rd:Int)+1)=((s.rd+1:Nat):Int) from by rw[IntKind.wrap_i64];omega];refine Calls.mono hg ?_;rintro e w4⟨k,v',rfl,a1,a2,a3,a4,a5⟩;simp only[Nat.add_sub_cancel]at a2 ⊢;have hn:(ts.getD s.rd Tm.zero).n=((s.rd+1:Nat):Int):=h.numOf (s.rd+1) (by omega) (by omega);rw[hn,<-htl,show ((s.rd+1:Nat):Int)=(s.rd:Int)+1 from by omega];have hF4:Fr (Src.own g v) w w4:=(hf.mono (by simp)).then a4;have hb4:=hF4.keep h.box h.notOwn.1;refine⟨k,v',rfl,⟨by have:=hf.size;omega,a2,a3,hF4,?_⟩,by rw[crw hb4];rfl,by rw[crw hb4];rfl,fun b u y hb=>hb.keepS a4 (fun hx=> ?_)⟩
   .exact (Moved.refl _ _).trans a5 hf.size
   simp only[Src.own,List.mem_cons,Option.mem_toList]at hx;rcases hx with rfl|hx
   .have:=hk.src.box;rw[hb.box]at this;simp at this
   exact hk.src.apart hb.box (by decide) hx
  have HTl:Hid (tl=(ts.getD s.rd Tm.zero).L):=htl;have HFz:Hid (∀W,Fr (Src.own g v) w W->W.cell? ⟨f,1,none⟩=some (.int .i64 (s.rd:Int))/\(∃u,W.cell? ⟨f,5,none⟩=some u)/\(∃u,W.cell? ⟨f,6,none⟩=some u)/\∀j,W.frozen? ⟨f,j,none⟩=false):=fun W hf=>by
   have hb:=hf.keep h.box h.notOwn.1;exact⟨by rw[crw hb];rfl,⟨_,by rw[crw hb];rfl⟩,⟨_,by rw[crw hb];rfl⟩,fun j=>by simp[World.frozen?,hb]⟩
  have HGo:Hid (FdM w0 w f g lb L ts v qs mb bs s hw):=h;clear htl;have hfw:=h.lt;rw[e2,e1];have hd:decide ((s.fd:Int)<=(s.rd:Int))=false:=by simp;omega
  clear h hv hv2;go_enter func269,ntmps269;go_wp2_with fail
  refine Calls.mono HT.out ?_;rintro e w1⟨rfl,rfl⟩;go_wp2_with fail
  refine Calls.mono HU.out ?_;rintro e w1⟨rfl,hF1⟩;have c0:=(HH.out _ hF1).c0;have c1:=(HH.out _ hF1).c1;have c2:=(HH.out _ hF1).c2;have c7:=(HH.out _ hF1).c7;rw[hcf]at c7
  go_wp2_with fail
  go_quiet (fail)
  go_wp2_with fail
  obtain⟨w2,HW2⟩:∃w2,Hid (w1.drewN nq=w2):=⟨_,rfl⟩;have hF2:Fr [] w w2:=by rw[<-HW2.out];exact hF1.then (Fr.drewN _ _ _)
  rw[HW2.out];have d0:=(HH.out _ hF2).c0;have d1:=(HH.out _ hF2).c1;have hfB:f≠w2.heap.size:=by have:=hF2.size;omega
  have hfB':w2.heap.size≠f:=fun e=>hfB e.symm;clear HW2 hF1 c0 c1 c2 c7;go_region_held3 (fun W=>W.cell? ⟨f,0,none⟩=some (.pointer (some ⟨g,0,none⟩))/\W.cell? ⟨f,1,none⟩=some (.int .i64 (s.rd:Int))) (go_keep)
   (first
    |(go_at_call 146;with_reducible refine Calls.mono (HG.out _ (hF2.then (Fr.drew _ _))) ?_;rintro e w4⟨k,v',rfl,HP,g0,g1,HB2⟩)
    |(go_at_call 146;with_reducible refine Calls.mono (HG.out _ (hF2.then ((Fr.alloc _ _ _).then (Fr.drew _ _)))) ?_;rintro e w4⟨k,v',rfl,HP,g0,g1,HB2⟩;have hB4:=HB2.out w2.heap.size (.int .i64 0) (.slice none 0 0) ⟨heap_alloc_new _ _⟩;obtain⟨s0,s1,s2,s3⟩:_/\_/\_/\_:=⟨hB4.c0,hB4.c1,hB4.f0,hB4.f1⟩))
  .obtain⟨w5,HW5⟩:∃w5,Hid (w4.alloc (.cells #[.int .i64 ((s.rd:Int)+1),.slice (some ⟨k,0,none⟩) tl tl] 108)=w5):=⟨_,rfl⟩;obtain⟨B,HB⟩:∃B,Hid (w4.heap.size=B):=⟨_,rfl⟩;have hB5:B2 w5 B (.int .i64 ((s.rd:Int)+1)) (.slice (some ⟨k,0,none⟩) tl tl):=⟨by rw[<-HW5.out,<-HB.out];exact heap_alloc_new _ _⟩;have hF45:Fr [] w4 w5:=by rw[<-HW5.out];exact Fr.alloc _ _ _
   obtain⟨p1,p2,p3,p4,p5⟩:=HP.out;have hF5:Fr (Src.own g v) w w5:=p4.then (hF45.mono (by simp));have hBf:B≠f:=by rw[<-HB.out];have:=p4.size;omega
   rw[HW5.out,HB.out];have HX:Hid (_/\Moved w.heap.size v v'/\∃k' n':Nat,(Value.slice (some ⟨k,0,none⟩) tl tl)=.slice (some ⟨k',0,none⟩) n' n'/\w.heap.size<=k'):=⟨HGo.out.got e1 HTl.out (p3.keep hF45) hF5 p1 (hF45.keep p2 (by simp)),p5,k,tl,rfl,p1⟩;obtain⟨a1,⟨u5,a5⟩,⟨u6,a6⟩,az⟩:=HFz.out _ hF5;obtain⟨b0,b1⟩:_/\_:=⟨hB5.c0,hB5.c1⟩;have z1:=az 1;have z5:=az 5;have z6:=az 6;have hBf':f≠B:=fun e=>hBf e.symm;clear HW5 HB hB5 hF45 p1 p2 p3 p4 p5 hF5 az HP HGo HB2 g0 g1 hfB hfB' d0 d1;go_wp2;go_ret2;exact⟨by simp,Or.inr ⟨trivial,v',_,HX.out.1.1,HX.out.1.2,HX.out.2⟩⟩
  obtain⟨w5,HW5⟩:∃w5,Hid ((w4.setCell ⟨w2.heap.size,0,none⟩ (.int .i64 ((s.rd:Int)+1))).setCell ⟨w2.heap.size,1,none⟩ (.slice (some ⟨k,0,none⟩) tl tl)=w5):=⟨_,rfl⟩;obtain⟨B,HB⟩:∃B,Hid (w2.heap.size=B):=⟨_,rfl⟩;have hF45:Fr [B] w4 w5:=by rw[<-HW5.out,HB.out];exact Fr.box2 _ _ _ _
  have hB5:B2 w5 B (.int .i64 ((s.rd:Int)+1)) (.slice (some ⟨k,0,none⟩) tl tl):=⟨by
   rw[<-HW5.out,HB.out];rw[HB.out]at hB4
   have:=row_setCell (j:=1) (.slice (some ⟨k,0,none⟩) tl tl) (row_setCell (j:=0) (.int .i64 ((s.rd:Int)+1)) hB4.box);simpa using this⟩
  obtain⟨p1,p2,p3,p4,p5⟩:=HP.out;rw[HB.out]at hB4 hfB hfB'
  have hBw:w.heap.size<=B:=by rw[<-HB.out];exact hF2.size
  have hF5:Fr (Src.own g v) w w5:=p4.trans hF45 (fun x hx _=>hx) (fun x hx hl=>by simp at hx;omega);have hkB:k≠B:=by
   rintro rfl;rw[hB4.box]at p2
   simp at p2
  rw[HW5.out,HB.out];have HX:Hid (_/\Moved w.heap.size v v'/\∃k' n':Nat,(Value.slice (some ⟨k,0,none⟩) tl tl)=.slice (some ⟨k',0,none⟩) n' n'/\w.heap.size<=k'):=⟨HGo.out.got e1 HTl.out (HGo.out.src.off p3 hBw hB4 hF45) hF5 p1 (hF45.keep p2 (by simpa using hkB)),p5,k,tl,rfl,p1⟩;obtain⟨a1,⟨u5,a5⟩,⟨u6,a6⟩,az⟩:=HFz.out _ hF5;obtain⟨b0,b1⟩:_/\_:=⟨hB5.c0,hB5.c1⟩;have z1:=az 1;have z5:=az 5;have z6:=az 6;clear HW5 HB hB5 hF45 p1 p2 p3 p4 p5 hF5 az HP HGo HB2 g0 g1 d0 d1 hB4 s0 s1 s2 s3;go_wp2;go_ret2;exact⟨by simp,Or.inr ⟨trivial,v',_,HX.out.1.1,HX.out.1.2,HX.out.2⟩⟩
 have e1:s.readC=9:=by simp[Fe.readC,hv2,hcf];omega
 have e2:s.readN=0:=by simp[Fe.readN,e1]
 rw[e1,e2];have hd:decide ((s.fd:Int)<=(s.rd:Int))=true:=by simp;omega
 clear h hv hv2 e1 e2;go_enter func269,ntmps269;go_wp2_with fail
 refine Calls.mono HT.out ?_;rintro e w1⟨rfl,rfl⟩;go_wp2_with fail
 refine Calls.mono HU.out ?_;rintro e w1⟨rfl,hF1⟩;have c1:=(HH.out _ hF1).c1;have c2:=(HH.out _ hF1).c2;have c7:=(HH.out _ hF1).c7;rw[hcf]at c7
 go_wp2_with fail
 go_quiet (fail)
 go_wp2;go_ret2;exact⟨rfl,Or.inl ⟨by omega,HH.out _ (hF1.then (Fr.drewN _ _ _)),hF1.then (Fr.drewN _ _ _)⟩⟩
end
section
variable{w0 w w':World}{f g lb L:Nat}{ts:List Tm}{v:Value}{qs:List Nat}{mb:Nat}{bs:List Int}{s:Fe}{hw:Value}
theorem zst(h:FdM w0 w f g lb L ts v qs mb bs s hw)(hv:s.hv=true):Calls prog 274 #[.pointer (some ⟨f,0,none⟩)] w fun e w'=>e=.returned (.agg #[.int .i64 (s.rd:Int),hw])/\FdM w0 w' f g lb L ts v qs mb bs {s with hv:=false} (.slice none 0 0)/\Fr [f] w w':=by
 obtain⟨o,n,c,rfl⟩:=h.slot;have hnum:s.num=s.rd:=by simp[Fe.num,hv]
 have HH:Hid (FdM w0 w f g lb L ts v qs mb bs s (.slice o n c)):=h;obtain⟨W1,HW1⟩:∃W1,Hid (w.alloc (.cells #[.int .i64 0,.slice none 0 0] 108)=W1):=⟨_,rfl⟩;have hF1:Fr [] w W1:=by rw[<-HW1.out];exact Fr.alloc _ _ _
 have hB1:B2 W1 w.heap.size (.int .i64 0) (.slice none 0 0):=⟨by rw[<-HW1.out];exact heap_alloc_new _ _⟩;have h1:=h.keep hF1;obtain⟨W2,HW2⟩:∃W2,Hid (W1.alloc (.cells #[.int .i64 (s.rd:Int),.slice o n c] 108)=W2):=⟨_,rfl⟩;have hF2:Fr [] W1 W2:=by rw[<-HW2.out];exact Fr.alloc _ _ _
 obtain⟨B,HB⟩:∃B,Hid (W1.heap.size=B):=⟨_,rfl⟩;have hB2:B2 W2 B (.int .i64 (s.rd:Int)) (.slice o n c):=⟨by rw[<-HW2.out,<-HB.out];exact heap_alloc_new _ _⟩;have hA2:=hB1.keep hF2;have h2:=h1.keep hF2;obtain⟨c5,c6⟩:_/\_:=⟨h1.c5,h1.c6⟩;rw[hnum]at c5
 obtain⟨d5,d6,z5,z6⟩:_/\_/\_/\_:=⟨h2.c5,h2.c6,h2.fz 5,h2.fz 6⟩;obtain⟨b0,b1⟩:_/\_:=⟨hB2.c0,hB2.c1⟩;obtain⟨a0,a1,az0,az1⟩:_/\_/\_/\_:=⟨hA2.c0,hA2.c1,hA2.f0,hA2.f1⟩;obtain⟨A,HA⟩:∃A,Hid (w.heap.size=A):=⟨_,rfl⟩;have hfA:f≠A:=by have:=h.lt;rw[<-HA.out];omega
 have hfB:f≠B:=by have:=h1.lt;rw[<-HB.out];omega
 have hAB:A≠B:=by have:=hB1.lt;rw[<-HA.out,<-HB.out];omega
 have hfA':A≠f:=fun e=>hfA e.symm;have hfB':B≠f:=fun e=>hfB e.symm;have hAB':B≠A:=fun e=>hAB e.symm;rw[HA.out]at a0 a1 az0 az1
 have HE:Hid (FdM w0 ((((W2.setCell ⟨f,5,none⟩ (.int .i64 0)).setCell ⟨f,6,none⟩ (.slice none 0 0)).setCell ⟨A,0,none⟩ (.int .i64 (s.rd:Int))).setCell ⟨A,1,none⟩ (.slice o n c)) f g lb L ts v qs mb bs {s with hv:=false} (.slice none 0 0)/\Fr [f] w ((((W2.setCell ⟨f,5,none⟩ (.int .i64 0)).setCell ⟨f,6,none⟩ (.slice none 0 0)).setCell ⟨A,0,none⟩ (.int .i64 (s.rd:Int))).setCell ⟨A,1,none⟩ (.slice o n c))):=by
  have hFa:Fr [f] w ((W2.setCell ⟨f,5,none⟩ (.int .i64 0)).setCell ⟨f,6,none⟩ (.slice none 0 0)):=((hF1.then hF2).mono (by simp)).then ((Fr.set _ _ _ (by simp)).then (Fr.set _ _ _ (by simp)));have hFz:=hFa.trans (Fr.box2 ((W2.setCell ⟨f,5,none⟩ (.int .i64 0)).setCell ⟨f,6,none⟩ (.slice none 0 0)) A (.int .i64 (s.rd:Int)) (.slice o n c)) (U:=[f]) (fun x hx _=>hx) (fun x hx hl=>by simp at hx;rw[HA.out]at hl;omega);have hb:=zgt (j:=6) (.slice none 0 0) (zgt (j:=5) (.int .i64 0) h2.box);have hb2:=(Fr.box2 ((W2.setCell ⟨f,5,none⟩ (.int .i64 0)).setCell ⟨f,6,none⟩ (.slice none 0 0)) A (.int .i64 (s.rd:Int)) (.slice o n c)).keep hb (by simpa using hfA);exact⟨h.upd hFz hb2 rfl rfl h.rf h.fl (fun e=>by cases e) ⟨_,_,_,rfl⟩,hFz⟩
 clear h h1 h2 HH hB1 hB2 hA2 hF1 hF2 hnum;go_enter func274,ntmps274;go_upto_region 1 with fail
 rw[HW1.out,HA.out];go_upto_region 2 with fail
 rw[HW2.out,HB.out];clear HW1 HW2 HA HB;go_wp2;refine bodyPost_ret (v:=.agg #[.int .i64 (s.rd:Int),.slice o n c]) (by rw[ziq rfl];go_simp) rfl ⟨rfl,HE.out⟩
end
section
variable{w0 w w':World}{f g lb L:Nat}{ts:List Tm}{v:Value}{qs:List Nat}{mb:Nat}{bs:List Int}{s:Fe}{hw:Value}
def disV(s:Fe)(bs:List Int)(mark:Int)(hw:Value):Value:=if s.disC bs mark=0 then .agg #[.int .i64 (s.rd:Int),hw] else .agg #[.int .i64 0,.slice none 0 0]
def disH(s:Fe)(bs:List Int)(mark:Int)(hw:Value):Value:=if s.disC bs mark=0 then .slice none 0 0 else hw
theorem fDis_any(h:FdM w0 w f g lb L ts v qs mb bs s hw)(mark:Int):Calls prog 275 #[.pointer (some ⟨f,0,none⟩),.int .i64 mark] w fun e w'=>e=.returned (.tuple #[disV s bs mark hw,.int .i64 (s.disC bs mark:Int)])/\FdM w0 w' f g lb L ts v qs mb bs (s.disS bs mark) (disH s bs mark hw)/\Fr [f] w w':=by
 have hF0:Fr [] w (w.alloc (.cells #[.int .i64 0,.slice none 0 0] 108)):=Fr.alloc _ _ _;obtain⟨W,HW⟩:∃W,Hid (w.alloc (.cells #[.int .i64 0,.slice none 0 0] 108)=W):=⟨_,rfl⟩;obtain⟨A,HA⟩:∃A,Hid (w.heap.size=A):=⟨_,rfl⟩;have hB:B2 W A (.int .i64 0) (.slice none 0 0):=⟨by rw[<-HW.out,<-HA.out];exact heap_alloc_new _ _⟩;rw[HW.out]at hF0
 have h0:=h.keep hF0;have HT:Hid (Calls ..):=zew h0;have HB:Hid (∀S V,Fr S W V->A∉S->B2 V A (.int .i64 0) (.slice none 0 0)):=fun S V hf hn=>hB.keepS hf hn;have hfA:f≠A:=by have:=h.lt;rw[<-HA.out];omega
 have HSt:Hid (∀V x y,Fr [f] W V->Fr [f] w ((V.setCell ⟨A,0,none⟩ x).setCell ⟨A,1,none⟩ y)):=fun V x y hf=>((hF0.mono (by simp)).then hf).trans (Fr.box2 V A x y) (U:=[f]) (fun x hx _=>hx) (fun x hx hl=>by simp at hx;rw[HA.out]at hl;omega);by_cases hv:s.hv=true
 .by_cases hb:(s.rd:Int)∈bs
  .have e1:s.disC bs mark=6:=by simp[Fe.disC,hv,hb]
   have HU:Hid (Calls ..):=zhp h0 hv hb;have HH:Hid (∀V x y,Fr [] W V->FdM w0 ((V.setCell ⟨A,0,none⟩ x).setCell ⟨A,1,none⟩ y) f g lb L ts v qs mb bs s hw):=fun V x y hf=>h.upd (HSt.out V x y (hf.mono (by simp))) ((Fr.box2 V A x y).keep ((hF0.then hf).keep h.box (by simp)) (by simpa using hfA)) rfl rfl h.rf h.fl (fun x=>⟨x,rfl⟩) h.slot;rw[show disV s bs mark hw=.agg #[.int .i64 0,.slice none 0 0] from by simp[disV,e1],show disH s bs mark hw=hw from by simp[disH,e1],show s.disS bs mark=s from by simp[Fe.disS,e1],e1];clear h h0 hF0 hB e1;go_enter func275,ntmps275;go_upto_region 1 with fail
   rw[HW.out,HA.out];clear HW HA;go_wp2_with fail
   refine Calls.mono HT.out ?_;rintro e w1⟨rfl,rfl⟩;go_wp2_with fail
   refine Calls.mono HU.out ?_;rintro e w1⟨rfl,hF1⟩;have hBz:=HB.out [] _ hF1 (by simp);obtain⟨s0,s1,s2,s3⟩:_/\_/\_/\_:=⟨hBz.c0,hBz.c1,hBz.f0,hBz.f1⟩;clear hBz;go_wp2;refine bodyPost_ret (v:=.tuple #[.agg #[.int .i64 0,.slice none 0 0],.int .i64 6]) (by rw[results_cell_tmp rfl];go_simp) rfl ⟨rfl,HH.out _ _ _ hF1,HSt.out _ _ _ (hF1.mono (by simp))⟩
  by_cases hn:s.near mark=false
  .have e1:s.disC bs mark=6:=by simp[Fe.disC,hv,hn]
   have HU:Hid (Calls ..):=zfv h0 hv hb;have HH:Hid (∀V x y,Fr [] W V->FdM w0 ((V.setCell ⟨A,0,none⟩ x).setCell ⟨A,1,none⟩ y) f g lb L ts v qs mb bs s hw):=fun V x y hf=>h.upd (HSt.out V x y (hf.mono (by simp))) ((Fr.box2 V A x y).keep ((hF0.then hf).keep h.box (by simp)) (by simpa using hfA)) rfl rfl h.rf h.fl (fun x=>⟨x,rfl⟩) h.slot;have HN:Hid (∀V,Fr [] W V->Calls prog 273 #[.pointer (some ⟨f,0,none⟩),.int .i64 mark] V fun e w'=>e=.returned (.bool (s.near mark))/\Fr [] V w'):=fun V hf=>zis (h0.keep hf) hv mark;rw[hn]at HN
   rw[show disV s bs mark hw=.agg #[.int .i64 0,.slice none 0 0] from by simp[disV,e1],show disH s bs mark hw=hw from by simp[disH,e1],show s.disS bs mark=s from by simp[Fe.disS,e1],e1];clear h h0 hF0 hB e1;go_enter func275,ntmps275;go_upto_region 1 with fail
   rw[HW.out,HA.out];clear HW HA;go_wp2_with fail
   refine Calls.mono HT.out ?_;rintro e w1⟨rfl,rfl⟩;go_wp2_with fail
   refine Calls.mono HU.out ?_;rintro e w1⟨rfl,hF1⟩;go_wp2_with fail
   refine Calls.mono (HN.out _ hF1) ?_;rintro e w2⟨rfl,hF2⟩;have hF1:=hF1.then hF2;have hBz:=HB.out [] _ hF1 (by simp);obtain⟨s0,s1,s2,s3⟩:_/\_/\_/\_:=⟨hBz.c0,hBz.c1,hBz.f0,hBz.f1⟩;clear hBz;go_wp2;refine bodyPost_ret (v:=.tuple #[.agg #[.int .i64 0,.slice none 0 0],.int .i64 6]) (by rw[results_cell_tmp rfl];go_simp) rfl ⟨rfl,HH.out _ _ _ hF1,HSt.out _ _ _ (hF1.mono (by simp))⟩
  have hn:s.near mark=true:=by simpa using hn
  have e1:s.disC bs mark=0:=by simp[Fe.disC,hv,hb,hn]
  have HU:Hid (Calls ..):=zfv h0 hv hb;have HN:Hid (∀V,Fr [] W V->Calls prog 273 #[.pointer (some ⟨f,0,none⟩),.int .i64 mark] V fun e w'=>e=.returned (.bool (s.near mark))/\Fr [] V w'):=fun V hf=>zis (h0.keep hf) hv mark;rw[hn]at HN
  obtain⟨o,n,c,hhw⟩:=h.slot;subst hhw;have HO:Hid (∀V,Fr [] W V->Calls prog 274 #[.pointer (some ⟨f,0,none⟩)] V fun e w'=>e=.returned (.agg #[.int .i64 (s.rd:Int),.slice o n c])/\FdM w0 w' f g lb L ts v qs mb bs {s with hv:=false} (.slice none 0 0)/\Fr [f] V w'):=fun V hf=>zst (h0.keep hf) hv;have HH:Hid (∀V x y,Fr [f] W V->FdM w0 V f g lb L ts v qs mb bs {s with hv:=false} (.slice none 0 0)->FdM w0 ((V.setCell ⟨A,0,none⟩ x).setCell ⟨A,1,none⟩ y) f g lb L ts v qs mb bs {s with hv:=false} (.slice none 0 0)):=fun V x y hf hV=>h.upd (HSt.out V x y hf) ((Fr.box2 V A x y).keep hV.box (by simpa using hfA)) rfl rfl h.rf h.fl (fun e=>by cases e) ⟨_,_,_,rfl⟩;rw[show disV s bs mark (.slice o n c)=.agg #[.int .i64 (s.rd:Int),.slice o n c] from by simp[disV,e1],show disH s bs mark (.slice o n c)=.slice none 0 0 from by simp[disH,e1],show s.disS bs mark={s with hv:=false} from by simp[Fe.disS,e1],e1];clear h h0 hF0 hB e1;go_enter func275,ntmps275;go_upto_region 1 with fail
  rw[HW.out,HA.out];clear HW HA;go_wp2_with fail
  refine Calls.mono HT.out ?_;rintro e w1⟨rfl,rfl⟩;go_wp2_with fail
  refine Calls.mono HU.out ?_;rintro e w1⟨rfl,hF1⟩;go_wp2_with fail
  refine Calls.mono (HN.out _ hF1) ?_;rintro e w2⟨rfl,hF2⟩;have hF2:=hF1.then hF2;go_wp2_with fail
  refine Calls.mono (HO.out _ hF2) ?_;rintro e w3⟨rfl,h3,hF3⟩;have hF3:=(hF2.mono (T:=[f]) (by simp)).then hF3;have hBz:=HB.out [f] _ hF3 (by simp;exact fun e=>hfA e.symm);obtain⟨s0,s1,s2,s3⟩:_/\_/\_/\_:=⟨hBz.c0,hBz.c1,hBz.f0,hBz.f1⟩;have HE:Hid (∀x y,_/\_):=fun x y=>⟨HH.out w3 x y hF3 h3,HSt.out w3 x y hF3⟩;clear hBz h3 hF1 hF2 hF3;go_wp2;refine bodyPost_ret (v:=.tuple #[.agg #[.int .i64 (s.rd:Int),.slice o n c],.int .i64 0]) (by rw[results_cell_tmp rfl];go_simp) rfl ⟨rfl,HE.out _ _⟩
 have hv2:s.hv=false:=by simpa using hv
 have e1:s.disC bs mark=9:=by simp[Fe.disC,hv2]
 have HU:Hid (Calls ..):=zho h0 hv2;have HH:Hid (∀V x y,Fr [] W V->FdM w0 ((V.setCell ⟨A,0,none⟩ x).setCell ⟨A,1,none⟩ y) f g lb L ts v qs mb bs s hw):=fun V x y hf=>h.upd (HSt.out V x y (hf.mono (by simp))) ((Fr.box2 V A x y).keep ((hF0.then hf).keep h.box (by simp)) (by simpa using hfA)) rfl rfl h.rf h.fl (fun x=>⟨x,rfl⟩) h.slot;rw[show disV s bs mark hw=.agg #[.int .i64 0,.slice none 0 0] from by simp[disV,e1],show disH s bs mark hw=hw from by simp[disH,e1],show s.disS bs mark=s from by simp[Fe.disS,e1],e1];clear h h0 hF0 hB e1;go_enter func275,ntmps275;go_upto_region 1 with fail
 rw[HW.out,HA.out];clear HW HA;go_wp2_with fail
 refine Calls.mono HT.out ?_;rintro e w1⟨rfl,rfl⟩;go_wp2_with fail
 refine Calls.mono HU.out ?_;rintro e w1⟨rfl,hF1⟩;have hBz:=HB.out [] _ hF1 (by simp);obtain⟨s0,s1,s2,s3⟩:_/\_/\_/\_:=⟨hBz.c0,hBz.c1,hBz.f0,hBz.f1⟩;clear hBz;go_wp2;refine bodyPost_ret (v:=.tuple #[.agg #[.int .i64 0,.slice none 0 0],.int .i64 9]) (by rw[results_cell_tmp rfl];go_simp) rfl ⟨rfl,HH.out _ _ _ hF1,HSt.out _ _ _ (hF1.mono (by simp))⟩
end
section
variable{w0 w w':World}{f g lb L:Nat}{ts:List Tm}{v:Value}{qs:List Nat}{mb:Nat}{bs:List Int}{s:Fe}{hw:Value}
theorem fCan_any(h:FdM w0 w f g lb L ts v qs mb bs s hw)(mark:Int):Calls prog 268 #[.pointer (some ⟨f,0,none⟩),.int .i64 mark] w fun e w'=>e=.returned (.int .u8 (s.can bs mark:Int))/\Fr [] w w':=by
 have HT:Hid (Calls ..):=zew h;have hfew:=h.few;have hr1:=h.rf;have hr2:=h.fl;by_cases hv:s.hv=true
 .by_cases hb:(s.rd:Int)∈bs
  .have HU:Hid (Calls ..):=zhp h hv hb;have e1:s.can bs mark=2:=by simp[Fe.can,hv,hb]
   rw[e1];clear e1 h hv hb;go_enter func268,ntmps268;go_wp2_with fail
   refine Calls.mono HT.out ?_;rintro e w1⟨rfl,rfl⟩;go_wp2_with fail
   refine Calls.mono HU.out ?_;rintro e w1⟨rfl,hF1⟩;go_wp2;go_ret;exact⟨rfl,hF1⟩
  have HU:Hid (Calls ..):=zfv h hv hb;have HN:Hid (∀W,Fr [] w W->Calls prog 273 #[.pointer (some ⟨f,0,none⟩),.int .i64 mark] W fun e w'=>e=.returned (.bool (s.near mark))/\Fr [] W w'):=fun W hf=>zis (h.keep hf) hv mark;by_cases hn:s.near mark=true
  .have e1:s.can bs mark=3:=by simp[Fe.can,hv,hb,hn]
   rw[e1];rw[hn]at HN
   clear e1 h hv hb;go_enter func268,ntmps268;go_wp2_with fail
   refine Calls.mono HT.out ?_;rintro e w1⟨rfl,rfl⟩;go_wp2_with fail
   refine Calls.mono HU.out ?_;rintro e w1⟨rfl,hF1⟩;go_wp2_with fail
   refine Calls.mono (HN.out _ hF1) ?_;rintro e w2⟨rfl,hF2⟩;go_wp2;go_ret;exact⟨rfl,hF1.then hF2⟩
  have hn2:s.near mark=false:=by simpa using hn
  have e1:s.can bs mark=0:=by simp[Fe.can,hv,hb,hn2]
  rw[e1];rw[hn2]at HN
  clear e1 h hv hb;go_enter func268,ntmps268;go_wp2_with fail
  refine Calls.mono HT.out ?_;rintro e w1⟨rfl,rfl⟩;go_wp2_with fail
  refine Calls.mono HU.out ?_;rintro e w1⟨rfl,hF1⟩;go_wp2_with fail
  refine Calls.mono (HN.out _ hF1) ?_;rintro e w2⟨rfl,hF2⟩;go_wp2;go_ret;exact⟨rfl,hF1.then hF2⟩
 have hv2:s.hv=false:=by simpa using hv
 have HU:Hid (Calls ..):=zho h hv2;have HK:Hid (∀W,Fr [] w W->W.cell? ⟨f,1,none⟩=some (.int .i64 (s.rd:Int))/\W.cell? ⟨f,2,none⟩=some (.int .i64 (s.fd:Int))/\W.cell? ⟨f,7,none⟩=some (.bool s.cl)):=fun W hf=>⟨(h.keep hf).c1,(h.keep hf).c2,(h.keep hf).c7⟩;by_cases hcl:s.cl=true
 .have e1:s.can bs mark=0:=by simp[Fe.can,hv2,hcl]
  rw[e1];rw[hcl]at HK
  clear e1 h hv hv2;go_enter func268,ntmps268;go_wp2_with fail
  refine Calls.mono HT.out ?_;rintro e w1⟨rfl,rfl⟩;go_wp2_with fail
  refine Calls.mono HU.out ?_;rintro e w1⟨rfl,hF1⟩;obtain⟨d1,d2,d7⟩:=HK.out _ hF1;go_wp2_with fail
  go_quiet (fail)
  go_wp2;go_ret;exact⟨rfl,hF1.then (Fr.drewN _ _ _)⟩
 have hcf:s.cl=false:=by simpa using hcl
 rw[hcf]at HK
 by_cases hlt:s.rd<s.fd
 .have e1:s.can bs mark=1:=by simp[Fe.can,hv2,hcf,hlt]
  rw[e1];have hd:decide ((s.rd:Int)<(s.fd:Int))=true:=by simpa using hlt
  clear e1 h hv hv2;go_enter func268,ntmps268;go_wp2_with fail
  refine Calls.mono HT.out ?_;rintro e w1⟨rfl,rfl⟩;go_wp2_with fail
  refine Calls.mono HU.out ?_;rintro e w1⟨rfl,hF1⟩;obtain⟨d1,d2,d7⟩:=HK.out _ hF1;go_wp2_with fail
  go_quiet (fail)
  go_wp2;go_ret;exact⟨rfl,hF1.then (Fr.drewN _ _ _)⟩
 have e1:s.can bs mark=0:=by simp[Fe.can,hv2,hcf,hlt]
 rw[e1];have hd:decide ((s.rd:Int)<(s.fd:Int))=false:=by simp;omega
 clear e1 h hv hv2;go_enter func268,ntmps268;go_wp2_with fail
 refine Calls.mono HT.out ?_;rintro e w1⟨rfl,rfl⟩;go_wp2_with fail
 refine Calls.mono HU.out ?_;rintro e w1⟨rfl,hF1⟩;obtain⟨d1,d2,d7⟩:=HK.out _ hF1;go_wp2_with fail
 go_quiet (fail)
 go_wp2;go_ret;exact⟨rfl,hF1.then (Fr.drewN _ _ _)⟩
end
def ahB(mark:Int)(bs:List Int)(i:Nat):Int:=if i=0 then mark else bs.getD (i-1) 0
theorem zrj(mark:Int)(bs:List Int)(i:Nat):ahB mark bs (i+1)=bs.getD i 0:=by simp[ahB]
structure MayB(mark:Int)(bs:List Int):Prop where
 up:∀j,j<bs.length->ahB mark bs j<bs.getD j 0
 first:0<bs.length->mark+1<bs.getD 0 0
def grB(mark:Int)(bs:List Int):Int:=if bs.length=0 then mark else bs.getD (bs.length-1) 0
open Classical in
noncomputable def newC (mark:Int) (bs:List Int) (win:Int) (L:Nat):Nat:=if mark<0\/¬MayB mark bs\/win<1\/64<win then 1 else if (L:Int)<grB mark bs then 6 else 0
theorem zagj{mark:Int}{bs:List Int}{win:Int}{L:Nat}(h:newC mark bs win L=0):0<=mark/\MayB mark bs/\1<=win/\win<=64/\grB mark bs<=L:=by
 unfold newC at h;split at h
 .cases h
 rename_i h1;split at h
 .cases h
 rename_i h2;simp only[not_or,Classical.not_not]at h1;exact⟨by omega,h1.2.1,by omega,by omega,by omega⟩
theorem MayB.le{mark:Int}{bs:List Int}(h:MayB mark bs):∀i j,i<=j->j<bs.length->bs.getD i 0<=bs.getD j 0:=by
 intro i j hij hj;induction j with
 |zero=>
  obtain rfl:i=0:=by omega
  exact Int.le_refl _
 |succ j ih=>
  by_cases e:i=j+1
  .subst e;exact Int.le_refl _
  have h1:=ih (by omega) (by omega);have h2:=h.up (j+1) hj;rw[zrj]at h2
  omega
theorem MayB.gr{mark:Int}{bs:List Int}(h:MayB mark bs):mark<=grB mark bs/\∀x∈bs,mark+1<x/\x<=grB mark bs:=by
 by_cases h0:bs.length=0
 .have:bs=[]:=List.eq_nil_of_length_eq_zero h0;subst this;exact⟨by simp[grB],by simp⟩
 have hf:=h.first (by omega);have e:grB mark bs=bs.getD (bs.length-1) 0:=by simp[grB,h0]
 rw[e];refine⟨by have:=h.le 0 (bs.length-1) (by omega) (by omega);omega,fun x hx=> ?_⟩;obtain⟨i,hi,rfl⟩:=List.getElem_of_mem hx;have e1:bs[i]=bs.getD i 0:=by simp[List.getD,hi]
 rw[e1];have a:=h.le 0 i (by omega) hi;have b:=h.le i (bs.length-1) (by omega) (by omega);exact⟨by omega,b⟩
theorem zrk{w0 w:World}{g lb L:Nat}{ts:List Tm}{v:Value}{qs:List Nat}(h:Src w0 w g lb L ts v qs):Calls prog 172 #[.pointer (some ⟨g,0,none⟩)] w fun e w'=>e=.returned (.bool true)/\Fr [] w w':=by
 have HG:Hid (Calls ..):=get_no h 0 (Or.inl (by omega)) (by omega);clear h;go_enter func172,ntmps172;go_wp2_with fail
 refine Calls.mono HG.out ?_;rintro e w1⟨rfl,hF1⟩;have hF2:Fr [] w1 (w1.alloc (.cells #[.int .i64 0,.slice none 0 0] 108)):=Fr.alloc _ _ _;have HF:Hid (Fr [] w (w1.alloc (.cells #[.int .i64 0,.slice none 0 0] 108))):=hF1.then hF2;clear hF1 hF2;go_wp2;go_ret;exact⟨rfl,HF.out⟩
theorem zwb(mark:Int)(bo:Option Addr)(M bc:Nat)(bs:List Int)(w:World)(h:IRs w bo bs)(hM:M=bs.length)(hi:∀x∈bs,i64 x)(hm:i64 mark)(b:Bool)(hb:b=true↔MayB mark bs) :
  Calls prog 173 #[.int .i64 mark,.slice bo M bc] w fun e w'=>e=.returned (.bool b)/\Fr [] w w':=by
 have HM:Hid (M=bs.length):=hM;have HB:Hid (b=true↔MayB mark bs):=hb;have HI:Hid (∀x∈bs,i64 x):=hi;have hfew:M<=17592186044416:=by rw[hM];exact h.few
 obtain⟨m1,m2⟩:=hm;clear hM hb hi;go_enter func173,ntmps173;go_wp2_with fail
 go_loopw [5,11] (fun aa ii wr=>∃i:Nat,aa=.int .i64 (ahB mark bs i)/\ii=.int .i64 i/\i<=M/\Hid (∀j,j<i->ahB mark bs j<bs.getD j 0)/\Hid (Fr [] w wr)) (fun _ ii _=>M-(RowKit.intOf ii).toNat)
 case atStart=>exact⟨0,by simp[ahB],rfl,Nat.zero_le _,fun j hj=>by omega,Fr.refl _ _⟩
 obtain⟨i,rfl,rfl,hiM,HU,HF⟩:=hrel;by_cases hil:i<M
 .have hi':i<bs.length:=by rw[<-HM.out];exact hil
  obtain⟨k,off,e,_,hc⟩:=(h.keep HF.out).lies (by omega);subst e;have d0:=hc i hi';obtain⟨x,hx⟩:∃x,x=bs.getD i 0:=⟨_,rfl⟩;obtain⟨a,ha⟩:∃a,a=ahB mark bs i:=⟨_,rfl⟩;rw[<-hx]at d0
  have HX:Hid (x=bs.getD i 0):=hx;have HA:Hid (a=ahB mark bs i):=ha;rw[<-ha];clear hc hx ha;by_cases hle:x<=a
  .have HN:Hid (b=false):=by
    show _=_;have hn:¬MayB mark bs:=fun hh=>by have:=hh.up i hi';rw[<-HX.out,<-HA.out]at this;omega
    cases b with
    |true=>exact absurd (HB.out.1 rfl) hn
    |false=>rfl
   clear HA HX;go_wp2;go_ret;rw[HN.out];exact⟨rfl,HF.out⟩
  have hd:decide (x<=a)=false:=by simpa using hle
  have HU2:Hid (∀j,j<i+1->ahB mark bs j<bs.getD j 0):=fun j hj=>by
   by_cases e:j=i
   .rw[e,<-HX.out,<-HA.out];omega
   exact HU.out j (by omega)
  have HX2:Hid (x=ahB mark bs (i+1)):=by show _=_;rw[zrj];exact HX.out
  clear HA HX HU;go_wp2;go_roundw;case rel=>exact⟨i+1,by rw[HX2.out],by simp,by omega,HU2,HF⟩
  case measure=>simp[RowKit.intOf];omega
 obtain rfl:i=M:=by omega
 by_cases h0:0<i
 .have h0':0<bs.length:=by rw[<-HM.out];exact h0
  obtain⟨k,off,e,_,hc⟩:=(h.keep HF.out).lies h0';subst e;have d0:=hc 0 h0';rw[Nat.add_zero]at d0
  have hx0:=HU.out 0 h0;have hxi:i64 (bs.getD 0 0):=HI.out _ (by simp[List.getD,h0']);obtain⟨x,hx⟩:∃x,x=bs.getD 0 0:=⟨_,rfl⟩;simp only[ahB,if_true]at hx0;rw[<-hx]at d0 hx0 hxi
  have HX:Hid (x=bs.getD 0 0):=hx;obtain⟨x1,x2⟩:=hxi;have hnz:((i:Int)==0)=false:=by rw[beq_eq_false_iff_ne];omega
  have HR:Hid (decide (mark+1<x)=b):=by
   show _=_;have:(mark+1<x)↔MayB mark bs:=⟨fun hh=>⟨fun j hj=>HU.out j (by rw[HM.out];exact hj),fun _=>by rw[<-HX.out];exact hh⟩,fun hh=>by have:=hh.first h0';rw[<-HX.out]at this;exact this⟩;have h2:=this.trans HB.out.symm;cases b with
   |true=>simpa using h2
   |false=>simpa using h2
  clear hc hx HX HU;go_wp2;go_ret;rw[HR.out];exact⟨rfl,HF.out⟩
 obtain rfl:i=0:=by omega
 have HR:Hid (b=true):=HB.out.2 ⟨fun j hj=>by have:=HM.out;omega,fun hh=>by have:=HM.out;omega⟩;go_wp2;go_ret;rw[HR.out];exact⟨rfl,HF.out⟩
theorem zom(mark:Int)(bo:Option Addr)(M bc:Nat)(bs:List Int)(w:World)(h:IRs w bo bs)(hM:M=bs.length) :
  Calls prog 174 #[.int .i64 mark,.slice bo M bc] w fun e w'=>e=.returned (.int .i64 (grB mark bs))/\w=w':=by
 have hfew:M<=17592186044416:=by rw[hM];exact h.few
 by_cases h0:0<M
 .obtain⟨k,off,e,_,hc⟩:=h.lies (by omega);subst e;have d0:=hc (M-1) (by omega);have HE:Hid (grB mark bs=bs.getD (M-1) 0):=by show _=_;unfold grB;rw[if_neg (by omega),hM]
  rw[HE.out];obtain⟨x,hx⟩:∃x,x=bs.getD (M-1) 0:=⟨_,rfl⟩;rw[<-hx]at d0 ⊢
  obtain⟨m,rfl⟩:∃m,M=m+1:=⟨M-1,by omega⟩;simp only[Nat.add_sub_cancel]at d0;have hnz:(((m+1:Nat):Int)==0)=false:=by rw[beq_eq_false_iff_ne];omega
  clear hc hx HE hM h;go_enter func174,ntmps174;go_wp2;go_ret;exact⟨rfl,rfl⟩
 obtain rfl:M=0:=by omega
 have HE:Hid (grB mark bs=mark):=by show _=_;unfold grB;rw[if_pos (by omega)]
 rw[HE.out];clear hM h;go_enter func174,ntmps174;go_wp2;go_ret;exact⟨rfl,rfl⟩
def inF(bs:List Int):Int->Option Unit:=fun x=>if x∈bs then some () else none
theorem zacj(bs:List Int)(x:Int):inF (bs++[x])=updF (inF bs) x (some ()):=by
 funext y
 by_cases e:y=x
 .subst e;rw[zae];simp[inF]
 rw[zab _ _ e];simp[inF,e]
theorem zzj(bo:Option Addr)(M bc:Nat)(bs:List Int)(w:World)(h:IRs w bo bs)(hM:M=bs.length)(hi:∀x∈bs,i64 x) :
  Calls prog 175 #[.slice bo M bc] w fun e w'=>∃mb,e=.returned (.map (some mb))/\w.heap.size<=mb/\MapG kBey w' mb M (inF bs)/\Fr [] w w':=by
 have HM:Hid (M=bs.length):=hM;have HI:Hid (∀x∈bs,i64 x):=hi;have hfew:M<=17592186044416:=by rw[hM];exact h.few
 have hmm:=fun w=>zqf (M:Int) w;have hM0:MapG kBey (w.alloc (.map #[] 0)) w.heap.size 0 (inF []):=by
  have e:inF []=fun _=>none:=by funext x;simp[inF]
  rw[e];exact MapG.made w
 have hF0:Fr [] w (w.alloc (.map #[] 0)):=Fr.alloc [] w _;clear hM hi;go_enter func175,ntmps175;go_wp2_with fail
 obtain⟨b,hb⟩:∃b,b=w.heap.size:=⟨_,rfl⟩;rw[<-hb]at hM0 ⊢
 have hbw:w.heap.size<=b:=by omega
 clear hb;go_loopw [11] (fun ii wr=>∃(i:Nat),ii=.int .i64 i/\i<=M/\Hid (MapG kBey wr b i (inF (bs.take i)))/\Fr [] w wr) (fun ii _=>M-(RowKit.intOf ii).toNat)
 case atStart=>exact⟨0,rfl,Nat.zero_le _,hM0,hF0⟩
 obtain⟨i,rfl,hiL,HMp,hFr⟩:=hrel;by_cases hi:i<M
 .have hi':i<bs.length:=by rw[<-HM.out];exact hi
  obtain⟨bb,off,rfl,_,hc⟩:=(h.keep hFr).lies (by omega);have d0:=hc i hi';have hxi:i64 (bs.getD i 0):=HI.out _ (by simp[List.getD,hi']);have HT:=zeu bs i hi';obtain⟨x,hx⟩:∃x,x=bs.getD i 0:=⟨_,rfl⟩;rw[<-hx]at d0 hxi HT
  clear hx hc;obtain⟨w4,hst,hM4,hF4⟩:=HMp.out.store x () hxi (by unfold maxLen;omega);have HM4:Hid (MapG kBey w4 b (i+1) (inF (bs.take (i+1)))):=by
   show MapG _ _ _ _ _;rw[HT,zacj];exact hM4
  have hG4:Fr [] w w4:=hFr.on hF4 (by intro x hx;simp at hx;omega)
  change (Instr.mapUpdate 225 (.map (some b)) (.int .i64 x) (.agg #[])).run prog wr=.ok () w4 at hst
  clear hM4 hF4 HMp hFr HT;go_wp2;go_roundw;case rel=>exact⟨i+1,by simp,by omega,HM4,hG4⟩
  case measure=>simp[RowKit.intOf];omega
 obtain rfl:i=M:=by omega
 have HM1:Hid (MapG kBey wr b i (inF bs)):=by
  have:=HMp.out;rw[List.take_of_length_le (by rw[<-HM.out];omega)]at this
  exact this
 go_wp2;go_ret;exact⟨b,rfl,hbw,HM1.out,hFr⟩
section
variable{w0 w:World}{g lb L:Nat}{ts:List Tm}{v:Value}{qs:List Nat}
theorem fNew_ok(mark:Int)(bo:Option Addr)(M bc:Nat)(bs:List Int)(win:Int)(h:Src w0 w g lb L ts v qs)(hok:okL 1 (txs ts))(hR:IRs w bo bs)(hM:M=bs.length)(hi:∀x∈bs,i64 x)(hm:i64 mark)(hc:newC mark bs win L=0) :
  Calls prog 149 #[.pointer (some ⟨g,0,none⟩),.int .i64 mark,.slice bo M bc,.int .i64 win] w fun e w'=>∃f mb,e=.returned (.tuple #[.pointer (some ⟨f,0,none⟩),.int .i64 0])/\FdM w0 w' f g lb L ts v qs mb bs ⟨mark.toNat,mark.toNat,win.toNat,false,false⟩ (.slice none 0 0)/\Fr [] w w':=by
 have HT:Hid (Calls ..):=zrk h;have HS:Hid (∀W,Fr [] w W->Src w0 W g lb L ts v qs):=fun W hf=>h.keep hf;have HL:Hid (∀W,Fr [] w W->Calls prog 132 #[.pointer (some ⟨g,0,none⟩)] W fun e w'=>e=.returned (.int .i64 (L:Int))/\W=w'):=fun W hf=>zno (h.keep hf);obtain⟨h1,h2,h3,h4,h5⟩:=zagj hc;have HB:Hid (∀W,Fr [] w W->Calls prog 173 #[.int .i64 mark,.slice bo M bc] W fun e w'=>e=.returned (.bool true)/\Fr [] W w'):=fun W hf=>zwb mark bo M bc bs W (hR.keep hf) hM hi hm true ⟨fun _=>h2,fun _=>rfl⟩;have HK:Hid (∀W,Fr [] w W->Calls prog 175 #[.slice bo M bc] W fun e w'=>∃mb,e=.returned (.map (some mb))/\W.heap.size<=mb/\MapG kBey w' mb M (inF bs)/\Fr [] W w'):=fun W hf=>zzj bo M bc bs W (hR.keep hf) hM hi;obtain⟨G,hG⟩:∃G,grB mark bs=G:=⟨_,rfl⟩;have HG:Hid (∀W,Fr [] w W->Calls prog 174 #[.int .i64 mark,.slice bo M bc] W fun e w'=>e=.returned (.int .i64 G)/\W=w'):=fun W hf=>by rw[<-hG];exact zom mark bo M bc bs W (hR.keep hf) hM
 have hgr:=h2.gr.1;rw[hG]at h5 hgr
 have hfew:=h.few;have HOK:Hid (okL 1 (txs ts)):=hok;have HW0:Hid (w0.heap.size<=w.heap.size):=by have:=h.gn;have:=h.lt;show _<=_;omega
 obtain⟨m,rfl⟩:∃m:Nat,mark=m:=⟨mark.toNat,by omega⟩;obtain⟨n,rfl⟩:∃n:Nat,win=n:=⟨win.toNat,by omega⟩;simp only[Int.toNat_natCast];have hd:decide ((m:Int)<0)=false:=by simp
 have hd3:decide ((n:Int)<1)=false:=by simp;omega
 have hd4:decide ((64:Int)<n)=false:=by simp;omega
 clear hc h hR hM hi hG h2 hm hok;go_enter func149,ntmps149;go_wp2_with fail
 refine Calls.mono HT.out ?_;rintro e w1⟨rfl,hF1⟩;go_wp2_with fail
 refine Calls.mono (HB.out _ hF1) ?_;rintro e w2⟨rfl,hF2⟩;have hF2:=hF1.then hF2;go_wp2_with fail
 refine Calls.mono (HG.out _ hF2) ?_;rintro e w3⟨rfl,rfl⟩;go_wp2_with fail
 refine Calls.mono (HL.out _ hF2) ?_;rintro e w3⟨rfl,rfl⟩;go_wp2_with fail
 refine Calls.mono (HK.out _ hF2) ?_;rintro e w4⟨mb,rfl,hmb,hmap,hF4⟩;have hF4:=hF2.then hF4;have hF5:Fr [] w4 (w4.alloc (.cells #[.pointer (some ⟨g,0,none⟩),.int .i64 (m:Int),.int .i64 (m:Int),.int .i64 (n:Int),.map (some mb),.int .i64 0,.slice none 0 0,.bool false] 227)):=Fr.alloc _ _ _;have HE:Hid (FdM w0 (w4.alloc (.cells #[.pointer (some ⟨g,0,none⟩),.int .i64 (m:Int),.int .i64 (m:Int),.int .i64 (n:Int),.map (some mb),.int .i64 0,.slice none 0 0,.bool false] 227)) w4.heap.size g lb L ts v qs mb bs ⟨m,m,n,false,false⟩ (.slice none 0 0)/\Fr [] w (w4.alloc (.cells #[.pointer (some ⟨g,0,none⟩),.int .i64 (m:Int),.int .i64 (m:Int),.int .i64 (n:Int),.map (some mb),.int .i64 0,.slice none 0 0,.bool false] 227))):=by
  refine⟨⟨HS.out _ (hF4.then hF5),HOK.out,heap_alloc_new _ _,⟨M,inF bs,hmap.keep hF5 (by simp),⟨fun x hx hlt=> ?_,fun e=>by cases e⟩⟩,Nat.le_refl _,by show m<=L;omega,⟨by show 1<=n;omega,by show n<=64;omega⟩,(fun e=>by cases e),⟨_,_,_,rfl⟩,?_,?_⟩,hF4.then hF5⟩
  .unfold inF;by_cases hx:x∈bs<;>simp[hx]
  .have:=HW0.out;have:=hF4.size;omega
  have:=HW0.out;have:=hF2.size;omega
 clear hmap hF1 hF2 hF4 hF5 HS;go_wp2;go_ret2;exact⟨_,mb,rfl,HE.out.1,HE.out.2⟩
end
end Go.Proofs.YtojjdnjfaelnfaaGreatDoor.F
