/- Contracts and lemmas. -/
import Derived.Test.YtojjdnjfaelnfaaGreatDoorGp47
set_option maxHeartbeats 8000000
set_option maxRecDepth 100000
namespace Go.Proofs.YtojjdnjfaelnfaaGreatDoor
set_option linter.unusedSimpArgs false
set_option linter.unusedVariables false
namespace Bq
open Go.ChangeShapes Go.WideShapes Go.ChangeAt Go.RowKit Go.Lib Go.Proofs.Tryz
section
variable{K:Kd}{S:List Nat}{w w':World}{bk:Nat}{rv:Value}{hs:List HB}
structure S0(K:Kd)(w:World)(bk:Nat)(rv:Value)(hs:List HB):Prop where
 bl:Bl K w bk rv hs
 each:∀(j:Nat)(h:HB),hs[j]? = some h->P0 K w h
 alone:zjx hs
 fresh:zpe hs
structure S1(K:Kd)(w:World)(bk:Nat)(rv:Value)(hs:List HB):Prop where
 bl:Bl K w bk rv hs
 each:∀(j:Nat)(h:HB),hs[j]? = some h->P1 K w h
 alone:zjx hs
 fresh:zpe hs
structure S2(K:Kd)(w:World)(bk:Nat)(rv:Value)(hs:List HB):Prop where
 bl:Bl K w bk rv hs
 each:∀(j:Nat)(h:HB),hs[j]? = some h->P2 K w h
theorem S0.filled(h:S0 K w bk rv hs)(hF:FillInv K w bk rv hs hs.length w'):S1 K w' bk rv hs:=
 ⟨hF.bk,fun j b hb=>hF.done j b hb (List.getElem?_eq_some_iff.1 hb).1,h.alone,h.fresh⟩
theorem S1.grown{hs':List HB}(h:S1 K w bk rv hs)(hG:GrowInv K w bk rv hs hs.length hs' w'):S2 K w' bk rv hs':=
 ⟨hG.bk,fun j b hb=>hG.done j b hb (by rw[<-hG.len];exact (List.getElem?_eq_some_iff.1 hb).1)⟩
end
structure Bx(w:World)(bk:Nat)(cs:Array Value):Prop where
 box:w.heap[bk]? = some (.cells cs 42 (0,0))
 size:cs.size=12
 rest:∀c,c=1\/c=3\/c=4\/c=5\/c=6\/c=7\/c=8\/c=9\/c=10\/c=11->cs[c]? = some (.slice none 0 0)
theorem Bx.c{w:World}{bk:Nat}{cs:Array Value}(h:Bx w bk cs)(c:Nat)(hc:c=1\/c=3\/c=4\/c=5\/c=6\/c=7\/c=8\/c=9\/c=10\/c=11):w.cell? ⟨bk,c,none⟩=some (.slice none 0 0):=by
 rw[crw h.box,h.rest c hc]
theorem Bx.keep{S:List Nat}{w w':World}{bk:Nat}{cs:Array Value}(h:Bx w bk cs)(hf:Fr S w w')(hb:bk∉S):Bx w' bk cs:=⟨hf.keep h.box hb,h.size,h.rest⟩
theorem zor(bk:Nat)(w:World)(hc:w.cell? ⟨bk,1,none⟩=some (.slice none 0 0)):Calls prog 17 #[.pointer (some ⟨bk,0,none⟩)] w fun e w'=>e=.returned (.tuple #[])/\w=w':=by
 go_enter func17,ntmps17;go_wp2_with fail
 refine wp_loop_rounds 1 ?_;rw[rounds_succ];go_wp2
 go_end0
 exact⟨rfl,rfl⟩
theorem zos(bk:Nat)(w:World)(hc:w.cell? ⟨bk,3,none⟩=some (.slice none 0 0)):Calls prog 19 #[.pointer (some ⟨bk,0,none⟩)] w fun e w'=>e=.returned (.tuple #[])/\w=w':=by
 go_enter func19,ntmps19;go_wp2_with fail
 refine wp_loop_rounds 1 ?_;rw[rounds_succ];go_wp2
 go_end0
 exact⟨rfl,rfl⟩
theorem zmw(bk:Nat)(w:World)(hc:w.cell? ⟨bk,4,none⟩=some (.slice none 0 0)):Calls prog 20 #[.pointer (some ⟨bk,0,none⟩)] w fun e w'=>e=.returned (.tuple #[])/\w=w':=by
 go_enter func20,ntmps20;go_wp2_with fail
 refine wp_loop_rounds 1 ?_;rw[rounds_succ];go_wp2
 go_end0
 exact⟨rfl,rfl⟩
theorem zmx(bk:Nat)(w:World)(hc:w.cell? ⟨bk,5,none⟩=some (.slice none 0 0)):Calls prog 21 #[.pointer (some ⟨bk,0,none⟩)] w fun e w'=>e=.returned (.tuple #[])/\w=w':=by
 go_enter func21,ntmps21;go_wp2_with fail
 refine wp_loop_rounds 1 ?_;rw[rounds_succ];go_wp2
 go_end0
 exact⟨rfl,rfl⟩
theorem zkw(bk:Nat)(w:World)(hc:w.cell? ⟨bk,6,none⟩=some (.slice none 0 0)):Calls prog 22 #[.pointer (some ⟨bk,0,none⟩)] w fun e w'=>e=.returned (.tuple #[])/\w=w':=by
 go_enter func22,ntmps22;go_wp2_with fail
 refine wp_loop_rounds 1 ?_;rw[rounds_succ];go_wp2
 go_end0
 exact⟨rfl,rfl⟩
theorem zry(bk:Nat)(w:World)(hc:w.cell? ⟨bk,7,none⟩=some (.slice none 0 0)):Calls prog 23 #[.pointer (some ⟨bk,0,none⟩)] w fun e w'=>e=.returned (.tuple #[])/\w=w':=by
 go_enter func23,ntmps23;go_wp2_with fail
 refine wp_loop_rounds 1 ?_;rw[rounds_succ];go_wp2
 go_end0
 exact⟨rfl,rfl⟩
theorem zot(bk:Nat)(w:World)(hc:w.cell? ⟨bk,8,none⟩=some (.slice none 0 0)):Calls prog 24 #[.pointer (some ⟨bk,0,none⟩)] w fun e w'=>e=.returned (.tuple #[])/\w=w':=by
 go_enter func24,ntmps24;go_wp2_with fail
 refine wp_loop_rounds 1 ?_;rw[rounds_succ];go_wp2
 go_end0
 exact⟨rfl,rfl⟩
theorem zjy(bk:Nat)(w:World)(hc:w.cell? ⟨bk,9,none⟩=some (.slice none 0 0)):Calls prog 25 #[.pointer (some ⟨bk,0,none⟩)] w fun e w'=>e=.returned (.tuple #[])/\w=w':=by
 go_enter func25,ntmps25;go_wp2_with fail
 refine wp_loop_rounds 1 ?_;rw[rounds_succ];go_wp2
 go_end0
 exact⟨rfl,rfl⟩
theorem zmy(bk:Nat)(w:World)(hc:w.cell? ⟨bk,10,none⟩=some (.slice none 0 0)):Calls prog 26 #[.pointer (some ⟨bk,0,none⟩)] w fun e w'=>e=.returned (.tuple #[])/\w=w':=by
 go_enter func26,ntmps26;go_wp2_with fail
 refine wp_loop_rounds 1 ?_;rw[rounds_succ];go_wp2
 go_end0
 exact⟨rfl,rfl⟩
theorem zmd(bk:Nat)(w:World)(hc:w.cell? ⟨bk,11,none⟩=some (.slice none 0 0)):Calls prog 27 #[.pointer (some ⟨bk,0,none⟩)] w fun e w'=>e=.returned (.tuple #[])/\w=w':=by
 go_enter func27,ntmps27;go_wp2_with fail
 refine wp_loop_rounds 1 ?_;rw[rounds_succ];go_wp2
 go_end0
 exact⟨rfl,rfl⟩
theorem zou(bk:Nat)(w:World)(hc:w.cell? ⟨bk,1,none⟩=some (.slice none 0 0)):Calls prog 28 #[.pointer (some ⟨bk,0,none⟩)] w fun e w'=>e=.returned (.tuple #[])/\w=w':=by
 go_enter func28,ntmps28;go_wp2_with fail
 refine wp_loop_rounds 1 ?_;rw[rounds_succ];go_wp2
 go_end0
 exact⟨rfl,rfl⟩
theorem zov(bk:Nat)(w:World)(hc:w.cell? ⟨bk,3,none⟩=some (.slice none 0 0)):Calls prog 30 #[.pointer (some ⟨bk,0,none⟩)] w fun e w'=>e=.returned (.tuple #[])/\w=w':=by
 go_enter func30,ntmps30;go_wp2_with fail
 refine wp_loop_rounds 1 ?_;rw[rounds_succ];go_wp2
 go_end0
 exact⟨rfl,rfl⟩
theorem zmz(bk:Nat)(w:World)(hc:w.cell? ⟨bk,4,none⟩=some (.slice none 0 0)):Calls prog 31 #[.pointer (some ⟨bk,0,none⟩)] w fun e w'=>e=.returned (.tuple #[])/\w=w':=by
 go_enter func31,ntmps31;go_wp2_with fail
 refine wp_loop_rounds 1 ?_;rw[rounds_succ];go_wp2
 go_end0
 exact⟨rfl,rfl⟩
theorem zna(bk:Nat)(w:World)(hc:w.cell? ⟨bk,5,none⟩=some (.slice none 0 0)):Calls prog 32 #[.pointer (some ⟨bk,0,none⟩)] w fun e w'=>e=.returned (.tuple #[])/\w=w':=by
 go_enter func32,ntmps32;go_wp2_with fail
 refine wp_loop_rounds 1 ?_;rw[rounds_succ];go_wp2
 go_end0
 exact⟨rfl,rfl⟩
theorem zkx(bk:Nat)(w:World)(hc:w.cell? ⟨bk,6,none⟩=some (.slice none 0 0)):Calls prog 33 #[.pointer (some ⟨bk,0,none⟩)] w fun e w'=>e=.returned (.tuple #[])/\w=w':=by
 go_enter func33,ntmps33;go_wp2_with fail
 refine wp_loop_rounds 1 ?_;rw[rounds_succ];go_wp2
 go_end0
 exact⟨rfl,rfl⟩
theorem zrz(bk:Nat)(w:World)(hc:w.cell? ⟨bk,7,none⟩=some (.slice none 0 0)):Calls prog 34 #[.pointer (some ⟨bk,0,none⟩)] w fun e w'=>e=.returned (.tuple #[])/\w=w':=by
 go_enter func34,ntmps34;go_wp2_with fail
 refine wp_loop_rounds 1 ?_;rw[rounds_succ];go_wp2
 go_end0
 exact⟨rfl,rfl⟩
theorem zow(bk:Nat)(w:World)(hc:w.cell? ⟨bk,8,none⟩=some (.slice none 0 0)):Calls prog 35 #[.pointer (some ⟨bk,0,none⟩)] w fun e w'=>e=.returned (.tuple #[])/\w=w':=by
 go_enter func35,ntmps35;go_wp2_with fail
 refine wp_loop_rounds 1 ?_;rw[rounds_succ];go_wp2
 go_end0
 exact⟨rfl,rfl⟩
theorem zjz(bk:Nat)(w:World)(hc:w.cell? ⟨bk,9,none⟩=some (.slice none 0 0)):Calls prog 36 #[.pointer (some ⟨bk,0,none⟩)] w fun e w'=>e=.returned (.tuple #[])/\w=w':=by
 go_enter func36,ntmps36;go_wp2_with fail
 refine wp_loop_rounds 1 ?_;rw[rounds_succ];go_wp2
 go_end0
 exact⟨rfl,rfl⟩
theorem znb(bk:Nat)(w:World)(hc:w.cell? ⟨bk,10,none⟩=some (.slice none 0 0)):Calls prog 37 #[.pointer (some ⟨bk,0,none⟩)] w fun e w'=>e=.returned (.tuple #[])/\w=w':=by
 go_enter func37,ntmps37;go_wp2_with fail
 refine wp_loop_rounds 1 ?_;rw[rounds_succ];go_wp2
 go_end0
 exact⟨rfl,rfl⟩
theorem zme(bk:Nat)(w:World)(hc:w.cell? ⟨bk,11,none⟩=some (.slice none 0 0)):Calls prog 38 #[.pointer (some ⟨bk,0,none⟩)] w fun e w'=>e=.returned (.tuple #[])/\w=w':=by
 go_enter func38,ntmps38;go_wp2_with fail
 refine wp_loop_rounds 1 ?_;rw[rounds_succ];go_wp2
 go_end0
 exact⟨rfl,rfl⟩
theorem zox(bk:Nat)(w:World)(hc:w.cell? ⟨bk,1,none⟩=some (.slice none 0 0)):Calls prog 39 #[.pointer (some ⟨bk,0,none⟩)] w fun e w'=>e=.returned (.bool true)/\w=w':=by
 go_enter func39,ntmps39;go_wp2_with fail
 refine wp_loop_rounds 1 ?_;rw[rounds_succ];go_wp2;go_ret;exact⟨rfl,rfl⟩
theorem zoy(bk:Nat)(w:World)(hc:w.cell? ⟨bk,3,none⟩=some (.slice none 0 0)):Calls prog 41 #[.pointer (some ⟨bk,0,none⟩)] w fun e w'=>e=.returned (.bool true)/\w=w':=by
 go_enter func41,ntmps41;go_wp2_with fail
 refine wp_loop_rounds 1 ?_;rw[rounds_succ];go_wp2;go_ret;exact⟨rfl,rfl⟩
theorem znc(bk:Nat)(w:World)(hc:w.cell? ⟨bk,4,none⟩=some (.slice none 0 0)):Calls prog 42 #[.pointer (some ⟨bk,0,none⟩)] w fun e w'=>e=.returned (.bool true)/\w=w':=by
 go_enter func42,ntmps42;go_wp2_with fail
 refine wp_loop_rounds 1 ?_;rw[rounds_succ];go_wp2;go_ret;exact⟨rfl,rfl⟩
theorem znd(bk:Nat)(w:World)(hc:w.cell? ⟨bk,5,none⟩=some (.slice none 0 0)):Calls prog 43 #[.pointer (some ⟨bk,0,none⟩)] w fun e w'=>e=.returned (.bool true)/\w=w':=by
 go_enter func43,ntmps43;go_wp2_with fail
 refine wp_loop_rounds 1 ?_;rw[rounds_succ];go_wp2;go_ret;exact⟨rfl,rfl⟩
theorem zky(bk:Nat)(w:World)(hc:w.cell? ⟨bk,6,none⟩=some (.slice none 0 0)):Calls prog 44 #[.pointer (some ⟨bk,0,none⟩)] w fun e w'=>e=.returned (.bool true)/\w=w':=by
 go_enter func44,ntmps44;go_wp2_with fail
 refine wp_loop_rounds 1 ?_;rw[rounds_succ];go_wp2;go_ret;exact⟨rfl,rfl⟩
theorem zsa(bk:Nat)(w:World)(hc:w.cell? ⟨bk,7,none⟩=some (.slice none 0 0)):Calls prog 45 #[.pointer (some ⟨bk,0,none⟩)] w fun e w'=>e=.returned (.bool true)/\w=w':=by
 go_enter func45,ntmps45;go_wp2_with fail
 refine wp_loop_rounds 1 ?_;rw[rounds_succ];go_wp2;go_ret;exact⟨rfl,rfl⟩
theorem zoz(bk:Nat)(w:World)(hc:w.cell? ⟨bk,8,none⟩=some (.slice none 0 0)):Calls prog 46 #[.pointer (some ⟨bk,0,none⟩)] w fun e w'=>e=.returned (.bool true)/\w=w':=by
 go_enter func46,ntmps46;go_wp2_with fail
 refine wp_loop_rounds 1 ?_;rw[rounds_succ];go_wp2;go_ret;exact⟨rfl,rfl⟩
theorem zka(bk:Nat)(w:World)(hc:w.cell? ⟨bk,9,none⟩=some (.slice none 0 0)):Calls prog 47 #[.pointer (some ⟨bk,0,none⟩)] w fun e w'=>e=.returned (.bool true)/\w=w':=by
 go_enter func47,ntmps47;go_wp2_with fail
 refine wp_loop_rounds 1 ?_;rw[rounds_succ];go_wp2;go_ret;exact⟨rfl,rfl⟩
theorem zne(bk:Nat)(w:World)(hc:w.cell? ⟨bk,10,none⟩=some (.slice none 0 0)):Calls prog 48 #[.pointer (some ⟨bk,0,none⟩)] w fun e w'=>e=.returned (.bool true)/\w=w':=by
 go_enter func48,ntmps48;go_wp2_with fail
 refine wp_loop_rounds 1 ?_;rw[rounds_succ];go_wp2;go_ret;exact⟨rfl,rfl⟩
theorem zmf(bk:Nat)(w:World)(hc:w.cell? ⟨bk,11,none⟩=some (.slice none 0 0)):Calls prog 49 #[.pointer (some ⟨bk,0,none⟩)] w fun e w'=>e=.returned (.bool true)/\w=w':=by
 go_enter func49,ntmps49;go_wp2_with fail
 refine wp_loop_rounds 1 ?_;rw[rounds_succ];go_wp2;go_ret;exact⟨rfl,rfl⟩
theorem ztg(bk:Nat)(rv:Value)(hs:List HB)(w:World)(h:Bl kInt w bk rv hs)(h0:∀(j:Nat) (h:HB),hs[j]? = some h->P0 kInt w h)(ha:zjx hs)(hfre:zpe hs) :
  Calls prog 18 #[.pointer (some ⟨bk,0,none⟩)] w fun e w'=>e=.returned (.tuple #[])/\Hid (FillInv kInt w bk rv hs hs.length w'):=by
 have HI0:Hid (FillInv kInt w bk rv hs 0 w):=⟨h,fun _ _ _ hj=>by omega,fun j b hb _=>h0 j b hb,Fr.refl _ _⟩;obtain⟨N,HN⟩:∃N,Hid (N=hs.length):=⟨_,rfl⟩;have hfew:=h.few;have HNUM:Hid (∀(j:Nat)(h:HB),hs[j]? = some h->h.n<4194304):=h.num;rw[<-HN.out]at hfew
 clear h0;obtain⟨rao,rcap,hrv⟩:=own_slice h.row;rw[<-HN.out]at hrv
 clear h;subst hrv;go_enter func18,ntmps18;go_wp2_with fail
 go_loopw [2] (fun ii wr=>∃i:Nat,ii=.int .i64 i/\i<=N/\Hid (FillInv kInt w bk (.slice rao N rcap) hs i wr)) (fun ii _=>N-(RowKit.intOf ii).toNat)
 case atStart=>exact⟨0,rfl,Nat.zero_le _,HI0⟩
 clear HI0;obtain⟨i,rfl,hiN,HI⟩:=hrel;have c1:wr.cell? ⟨bk,2,none⟩=some (.slice rao N rcap):=HI.out.bk.c1;by_cases hi:i<N
 .obtain⟨e,he⟩:∃e,hs[i]? = some e:=⟨_,List.getElem?_eq_getElem (by rw[<-HN.out];exact hi)⟩;have HE:Hid (hs[i]? = some e):=he;obtain⟨rb,rc,hrv,hrc,d0,d1,d2⟩:=HI.out.bk.at i e he;rw[<-HN.out]at hrv hrc
  cases hrv;have hen:e.n<4194304:=HNUM.out i e he;obtain⟨n,vs,hOc,hn21⟩:=HI.out.left i e he (Nat.le_refl _);obtain⟨lao,lcap,lf,hl,hnl,hlf,hO⟩:=hOc;have HLe:Hid (e.l=.slice lao n lcap):=hl;have HCu:Hid (n<=lcap/\lcap<=lf):=⟨hnl,hlf⟩;rw[hl]at d0
  clear hnl hlf;obtain⟨M,HM⟩:∃M,Hid (M=e.n):=⟨_,rfl⟩;rw[hfre i e he]at d1
  rw[<-HM.out]at d2 hen
  clear he hl;obtain⟨B,HB⟩:∃B,Hid (mInt M=B):=⟨_,rfl⟩;go_wp2_with fail
  obtain⟨hv,hhv⟩:∃hv,hv=wr.heap.size:=⟨_,rfl⟩;obtain⟨w1,hw1⟩:∃w1,w1=wr.alloc (Obj.cells #[.slice lao n lcap,.slice none 0 0,.int .i64 (M:Int)] 77):=⟨_,rfl⟩;rw[<-hw1,<-hhv];have hF1:Fr [] wr w1:=by rw[hw1];exact Fr.alloc [] _ _
  have hvb:w1.heap[hv]? = some (.cells #[.slice lao n lcap,.slice none 0 0,.int .i64 (M:Int)] 77 (0,0)):=by rw[hw1,hhv];exact heap_alloc_new wr _
  have HLT:Hid (∀k,(Value.slice lao n lcap).ownBlock=some k->k≠hv):=by
   intro k hk;have:=(hO.lt k (by rw[zdy lao n n lf lcap];exact hk)).2;omega
  have hO1:=zaj hO hF1 (by simp);have hvl:=hO.1;clear hO hw1 hhv d0 d1 d2 c1;have HI0:Hid (w1.ownsRow 0 3 1 (.slice lao n lf) n (zaw [.int .i64 B] 0++vs)):=hO1;clear hO1;go_loopw [4] (fun kk wr'=>∃(k:Nat)(R:List Value),kk=.int .i64 k/\k<=n/\Hid (R.length=(n-k)*1)/\Hid (wr'.ownsRow 0 3 1 (.slice lao n lf) n (zaw [.int .i64 B] k++R))/\Hid (Fr (Value.slice lao n lcap).ownBlock.toList w1 wr')) (fun kk _=>n-(RowKit.intOf kk).toNat)
  case atStart=>exact⟨0,vs,rfl,Nat.zero_le _,hvl,HI0,Fr.refl _ _⟩
  clear HI0;obtain⟨k,R,rfl,hkn,HR,HO,HF2⟩:=hrel;have hvb2:=HF2.out.keep hvb (by intro hm;exact HLT.out hv (by simpa using hm) rfl);by_cases hk:k<n
  .have hlt:(k:Int)<n:=by omega
   obtain⟨t,gc,hg,hgc⟩:=own_form HO.out (by omega);cases hg;have hvt':t≠hv:=HLT.out t rfl;have hvt:hv≠t:=fun e=>hvt' e.symm;obtain⟨a,S,hRe,hS⟩:=zajp hk HR.out;subst hRe;have HS:Hid (S.length=(n-(k+1))*1):=hS;have HC:Hid (∀W,Fr [] wr W->W.cell? ⟨hv,0,none⟩=some (.slice (some ⟨t,0,none⟩) n lcap)/\W.cell? ⟨hv,2,none⟩=some (.int .i64 (M:Int))/\W.cell? ⟨t,k,none⟩=some a/\W.frozen? ⟨t,k,none⟩=false):=by
    intro W hf;have hb:=hf.keep hvb2 (by simp);have hO:=zaj HO.out hf (by simp);have hc:∀j u,(a::S)[j]? = some u->W.cell? ⟨t,k*1+j,none⟩=some u:=behind rfl hO;exact⟨by rw[crw hb];rfl,by rw[crw hb];rfl,(by simpa using hc 0 a rfl),zrw hO _⟩
   have HP:Hid (∀W,Fr [] wr W->Hid (((W.setCell ⟨t,k,none⟩ (.int .i64 B))).ownsRow 0 3 1 (.slice (some ⟨t,0,none⟩) n lf) n (zaw [.int .i64 B] (k+1)++S))/\Hid (Fr (Value.slice (some ⟨t,0,none⟩) n lcap).ownBlock.toList w1 ((W.setCell ⟨t,k,none⟩ (.int .i64 B))))):=by
    intro W hf;have hO:=zaj HO.out hf (by simp);have h3:=(zum hO (k) (.int .i64 B));rw[zajo]at h3
    refine⟨h3,?_⟩;show Fr [t] w1 _;exact ((show Fr [t] w1 wr from HF2.out).trans hf (fun x hx _=>hx) (by simp)).then (Fr.set W ⟨t,k,none⟩ _ (by simp))
   obtain⟨a0,a1,a2,a3⟩:=HC.out _ (Fr.refl [] wr);obtain⟨b0,b1,b2,b3⟩:=HC.out _ (Fr.drew [] wr);have hMk:=zmc M B wr.drew hen HB.out;clear hvb hvb2 hS;go_wp2_with fail
   first
    |go_loud (go_region_held3 (fun W=>W.cell? ⟨hv,0,none⟩=some (.slice (some ⟨t,0,none⟩) n lcap)/\W.cell? ⟨hv,2,none⟩=some (.int .i64 (M:Int))) (go_keep)
      (first
      |(go_at_call 65;with_reducible refine hMk.mono ?_;rintro e w3⟨rfl,hF3⟩;obtain⟨j0,j1,j2,j3⟩:=HC.out _ ((Fr.drew [] wr).then hF3))))
    |fail
   obtain⟨p1,p2⟩:=HP.out _ ((Fr.drew [] wr).then hF3);clear hF3 hMk HP HC;go_wp2_with fail
   go_roundw;case rel=>exact⟨k+1,S,by simp,by omega,HS,p1,p2⟩
   case measure=>simp[RowKit.intOf];omega
  have hle:(n:Int)<=k:=by omega
  have v0:wr.cell? ⟨hv,0,none⟩=some (.slice lao n lcap):=by rw[crw hvb2];rfl
  have HP1:Hid (P1 kInt wr e):=by
   refine⟨n,?_,hn21⟩;have hkn':k=n:=by omega
   have hR0:R=[]:=List.eq_nil_of_length_eq_zero (by rw[HR.out,hkn'];omega);have:=HO.out;rw[hR0,List.append_nil,hkn',<-HB.out]at this
   rw[HLe.out,<-HM.out];exact⟨lao,lcap,lf,rfl,HCu.out.1,HCu.out.2,this⟩
  have HI2:Hid (FillInv kInt w bk (.slice (some ⟨rb,0,none⟩) N rcap) hs (i+1) wr):=HI.out.next ha HE.out hF1 (by rw[HLe.out];exact HF2.out) HP1.out;clear hvb hvb2 HO;go_wp2_with fail
  go_roundw;case rel=>exact⟨i+1,by simp,by omega,HI2⟩
  case measure=>simp[RowKit.intOf];omega
 obtain rfl:i=N:=by omega
 go_wp2_with fail
 go_end0
 exact⟨rfl,by rw[<-HN.out];exact HI⟩
end Bq
namespace Bq
open BigFrame Go.ChangeShapes Go.WideShapes Go.ChangeAt Go.RowKit Go.Lib Go.Proofs.Tryz
theorem ztk(bk:Nat)(rv:Value)(hs:List HB)(w:World)(h:Bl kInt w bk rv hs)(h2:∀(j:Nat) (h:HB),hs[j]? = some h->P2 kInt w h) :
  Calls prog 40 #[.pointer (some ⟨bk,0,none⟩)] w fun e w'=>e=.returned (.bool true)/\Fr [] w w':=by
 obtain⟨N,HN⟩:∃N,Hid (N=hs.length):=⟨_,rfl⟩;have hfew:=h.few;rw[<-HN.out]at hfew
 obtain⟨rao,rcap,hrv⟩:=own_slice h.row;rw[<-HN.out]at hrv
 have H:Hid (Bl kInt w bk rv hs):=h;clear h;subst hrv;go_enter func40,ntmps40;go_wp2_with fail
 go_loopw [3] (fun ii wr=>∃(i:Nat),ii=.int .i64 i/\i<=N/\Fr [] w wr) (fun ii _=>N-(RowKit.intOf ii).toNat)
 case atStart=>exact⟨0,rfl,Nat.zero_le _,Fr.refl _ _⟩
 obtain⟨i,rfl,hiN,hF⟩:=hrel;have hB:=H.out.keep hF (by simp) (by simp);have c1:wr.cell? ⟨bk,2,none⟩=some (.slice rao N rcap):=hB.c1;by_cases hi:i<N
 .obtain⟨e,he⟩:∃e,hs[i]? = some e:=⟨_,List.getElem?_eq_getElem (by rw[<-HN.out];exact hi)⟩;obtain⟨rb,rc,hrv,hrc,d0,d1,d2⟩:=hB.at i e he;rw[<-HN.out]at hrv hrc
  cases hrv;have hen:e.n<4194304:=hB.num i e he;have hp2:=(h2 i e he).keep hF (by simp) (by simp);obtain⟨n,hR,hO,hn21⟩:=hp2;obtain⟨lao,lcap,hl,hlc,hlr⟩:=hR.shape;obtain⟨xo,gcap,gf,hx,hxc,hgf,hO⟩:=hO;obtain⟨g,gc2,hgx,_⟩:=own_form hO (by omega);cases hgx;obtain⟨Q,hQ⟩:∃Q,Q=n+70:=⟨_,rfl⟩;rw[hx]at d1
  rw[hl]at d0
  obtain⟨M,HM⟩:∃M,Hid (M=e.n):=⟨_,rfl⟩;rw[<-HM.out]at d2 hen
  obtain⟨B,HB⟩:∃B,Hid (mInt M=B):=⟨_,rfl⟩;have hmk:kInt.mark e.n=[.int .i64 B]:=by rw[<-HM.out,<-HB.out]
  rw[hmk]at hlr hO
  rw[<-hQ]at hO d1 hxc
  have hQn:(Q:Int)=(n:Int)+70:=by omega
  have hne:((Q:Int) != (n:Int)+70)=false:=by rw[hQn];simp
  have hQb:Q<2^35:=by omega
  have HQn:Hid (Q=n+70):=hQ;have HX:Hid (∀W,Fr [] wr W->∀k i,k<Q->i<1->W.cell? ⟨g,k*1+i,none⟩=[.int .i64 B][i]?):=by
   intro W hf k i hk hi;exact zje (K:=kInt) (n:=0) rfl (zaj hO hf (by simp)) k i hk hi
  have HY:Hid (0<n->∃t,lao=some ⟨t,0,none⟩/\∀W,Fr [] wr W->∀k i,k<n->i<1->W.cell? ⟨t,k*1+i,none⟩=[.int .i64 B][i]?):=by
   intro h0;obtain⟨t,e1,hc⟩:=hlr h0;refine⟨t,e1,fun W hf k i hk hi=> ?_⟩;obtain⟨cs,hcs⟩:=hR.type t (by rw[hl,e1];rfl);exact (World.cell?_of_block (hf.block t (lt_of_block hcs) (by simp))).trans (hc k i hk hi)
  clear hO hR hB he hx hl hQ hQn hlr hmk;go_wp2_with fail
  obtain⟨hv,hhv⟩:∃hv,hv=wr.heap.size:=⟨_,rfl⟩;obtain⟨w1,hw1⟩:∃w1,w1=wr.alloc (Obj.cells #[.slice lao n lcap,.slice (some ⟨g,0,none⟩) Q gcap,.int .i64 (M:Int)] 77):=⟨_,rfl⟩;rw[<-hw1,<-hhv];have hF1:Fr [] wr w1:=by rw[hw1];exact Fr.alloc [] _ _
  have hvb:w1.heap[hv]? = some (.cells #[.slice lao n lcap,.slice (some ⟨g,0,none⟩) Q gcap,.int .i64 (M:Int)] 77 (0,0)):=by rw[hw1,hhv];exact heap_alloc_new wr _
  have HA:Hid (∀W,Fr [] w1 W->W.cell? ⟨hv,0,none⟩=some (.slice lao n lcap)/\W.cell? ⟨hv,1,none⟩=some (.slice (some ⟨g,0,none⟩) Q gcap)/\W.cell? ⟨hv,2,none⟩=some (.int .i64 (M:Int))/\Fr [] wr W):=by
   intro W hf;have hb:=hf.keep hvb (by simp);exact⟨by rw[crw hb];rfl,by rw[crw hb];rfl,by rw[crw hb];rfl,hF1.then hf⟩
  have HF1:Hid (Fr [] w w1):=hF.then hF1;obtain⟨v0,v1,v2,_⟩:=HA.out _ (Fr.refl [] w1);clear hw1 hhv c1 d0 d1 d2 hvb hF hF1;go_loopw [5] (fun kk wr'=>∃(k:Nat),kk=.int .i64 k/\k<=Q/\Fr [] w1 wr') (fun kk _=>Q-(RowKit.intOf kk).toNat)
  case atStart=>exact⟨0,rfl,Nat.zero_le _,Fr.refl _ _⟩
  obtain⟨k,rfl,hkQ,hFq⟩:=hrel;obtain⟨a0,a1,a2,_⟩:=HA.out _ hFq;by_cases hk:k<Q
  .have hlt:(k:Int)<Q:=by omega
   have HF:Hid (Fr [] w1 wr):=hFq;have f0:∀x:Wd w1,x.W.cell? ⟨hv,0,none⟩=some (.slice lao n lcap):=fun x=>(HA.out _ x.h).1;have f1:∀x:Wd w1,x.W.cell? ⟨hv,1,none⟩=some (.slice (some ⟨g,0,none⟩) Q gcap):=fun x=>(HA.out _ x.h).2.1;have f2:∀x:Wd w1,x.W.cell? ⟨hv,2,none⟩=some (.int .i64 (M:Int)):=fun x=>(HA.out _ x.h).2.2.1;have g0:∀x:Wd w1,x.W.cell? ⟨g,k,none⟩=some (.int .i64 B):=fun x=>by simpa using HX.out x.W (HA.out _ x.h).2.2.2 k 0 hk (by omega)
   by_cases hkn:k<n
   .have hkn':(k:Int)<n:=(by omega);obtain⟨t,e9,HT⟩:=HY.out (by omega);subst e9;have y0:∀x:Wd w1,x.W.cell? ⟨t,k,none⟩=some (.int .i64 B):=fun x=>by simpa using HT x.W (HA.out _ x.h).2.2.2 k 0 hkn (by omega)
    clear hFq;go_wp2_with fail
    refine zjf (w1:=w1) (by kernel_rfl) (by kernel_rfl) HF.out ?_
    repeat (go_big_quiet_step (exact (zrx M B _ hen HB.out).mono fun e w3 hh=>⟨hh.1,⟨_,Fr.then (Wd.h _) hh.2⟩,rfl⟩))
    refine wpQuiet_nil ?_;rintro _⟨x,rfl⟩;go_wp2_with fail
    go_roundw;case rel=>exact⟨k+1,by simp,by omega,x.h⟩
    case measure=>simp[RowKit.intOf];omega
   have hkn':¬((k:Int)<n):=by omega
   clear hFq;go_wp2_with fail
   refine zjf (w1:=w1) (by kernel_rfl) (by kernel_rfl) HF.out ?_
   repeat (go_big_quiet_step (exact (zrx M B _ hen HB.out).mono fun e w3 hh=>⟨hh.1,⟨_,Fr.then (Wd.h _) hh.2⟩,rfl⟩))
   refine wpQuiet_nil ?_;rintro _⟨x,rfl⟩;go_wp2_with fail
   go_roundw;case rel=>exact⟨k+1,by simp,by omega,x.h⟩
   case measure=>simp[RowKit.intOf];omega
  have hle:(Q:Int)<=k:=by omega
  have hF2:=HF1.out.then hFq;go_wp2_with fail
  go_roundw;case rel=>exact⟨i+1,by simp,by omega,hF2⟩
  case measure=>simp[RowKit.intOf];omega
 go_wp2_with fail
 go_ret;exact⟨rfl,hF⟩
theorem zsb{w:World}{bk:Nat}{cs:Array Value}{hs:List HB}(hb:w.heap[bk]? = some (.cells cs 42 (0,0)))(h:∀(j:Nat) (h:HB),hs[j]? = some h->∀k,h.l.ownBlock=some k->∃cs,w.heap[k]? = some (.cells cs kInt.tE (0,0))):bk∉lbs hs:=fun hm=>by
 obtain⟨b,h1,h2⟩:=mem_lbs.1 hm;obtain⟨j,hj⟩:=List.getElem?_of_mem h1;obtain⟨cs',hc⟩:=h j b hj bk h2;rw[hb]at hc
 simp only[Option.some.injEq,Obj.cells.injEq]at hc;exact absurd hc.2.1.symm kInt.eB
theorem apart1_any(bk:Nat)(cs:Array Value)(rI:Value)(hI:List HB)(w:World)(hX:Bx w bk cs)(sI:S0 kInt w bk rI hI) :
  Calls prog 7 #[.pointer (some ⟨bk,0,none⟩)] w fun e w'=>e=.returned (.bool true)/\Fr (rI.ownBlock.toList++lbs hI) w w':=by
 have HI:Hid (S0 kInt w bk rI hI):=sI;have HX:Hid (Bx w bk cs):=hX;clear sI hX;go_enter func7,ntmps7;go_wp2_with fail
 refine (zor bk w (HX.out.c 1 (by omega))).mono ?_;rintro e _⟨rfl,rfl⟩;go_wp2_with fail
 refine (ztg bk rI hI w HI.out.bl HI.out.each HI.out.alone HI.out.fresh).mono ?_;rintro e w1⟨rfl,HZ⟩;have HF1:Hid (Fr (rI.ownBlock.toList++lbs hI) w w1):=(Fr.refl _ w).trans HZ.out.fr (fun x hx _=>hx) (fun x hx _=>List.mem_append_right _ hx);have HXn:Hid (Bx w1 bk cs):=HX.out.keep HZ.out.fr (zsb HX.out.box fun j b hb=>(HI.out.each j b hb).type);have HI1:Hid (S1 kInt w1 bk rI hI):=HI.out.filled HZ.out;clear HX HZ HI;have HX:=HXn;clear HXn;go_wp2_with fail
 refine (zos bk w1 (HX.out.c 3 (by omega))).mono ?_;rintro e _⟨rfl,rfl⟩;go_wp2_with fail
 refine (zmw bk w1 (HX.out.c 4 (by omega))).mono ?_;rintro e _⟨rfl,rfl⟩;go_wp2_with fail
 refine (zmx bk w1 (HX.out.c 5 (by omega))).mono ?_;rintro e _⟨rfl,rfl⟩;go_wp2_with fail
 refine (zkw bk w1 (HX.out.c 6 (by omega))).mono ?_;rintro e _⟨rfl,rfl⟩;go_wp2_with fail
 refine (zry bk w1 (HX.out.c 7 (by omega))).mono ?_;rintro e _⟨rfl,rfl⟩;go_wp2_with fail
 refine (zot bk w1 (HX.out.c 8 (by omega))).mono ?_;rintro e _⟨rfl,rfl⟩;go_wp2_with fail
 refine (zjy bk w1 (HX.out.c 9 (by omega))).mono ?_;rintro e _⟨rfl,rfl⟩;go_wp2_with fail
 refine (zmy bk w1 (HX.out.c 10 (by omega))).mono ?_;rintro e _⟨rfl,rfl⟩;go_wp2_with fail
 refine (zmd bk w1 (HX.out.c 11 (by omega))).mono ?_;rintro e _⟨rfl,rfl⟩;go_wp2_with fail
 refine (zou bk w1 (HX.out.c 1 (by omega))).mono ?_;rintro e _⟨rfl,rfl⟩;go_wp2_with fail
 refine (ztj bk rI hI w1 HI1.out.bl HI1.out.each HI1.out.alone HI1.out.fresh).mono ?_;rintro e w2⟨rfl,gI,HZ⟩;have HF2:Hid (Fr (rI.ownBlock.toList++lbs hI) w w2):=HF1.out.trans HZ.out.fr (fun x hx _=>hx) (fun x hx _=>hx);have HXn:Hid (Bx w2 bk cs):=HX.out.keep HZ.out.fr (fun hm=>by
  rcases List.mem_append.1 hm with hm|hm
  .obtain⟨cs',hc⟩:=own_type HI1.out.bl.row bk (by simpa using hm);rw[HX.out.box]at hc
   simp only[Option.some.injEq,Obj.cells.injEq]at hc;exact absurd hc.2.1.symm kInt.hB
  exact zsb HX.out.box (fun j b hb=>(HI1.out.each j b hb).type) hm)
 have HI2:Hid (S2 kInt w2 bk rI gI):=HI1.out.grown HZ.out;clear HX HZ HI1 HF1;have HX:=HXn;clear HXn;go_wp2_with fail
 refine (zov bk w2 (HX.out.c 3 (by omega))).mono ?_;rintro e _⟨rfl,rfl⟩;go_wp2_with fail
 refine (zmz bk w2 (HX.out.c 4 (by omega))).mono ?_;rintro e _⟨rfl,rfl⟩;go_wp2_with fail
 refine (zna bk w2 (HX.out.c 5 (by omega))).mono ?_;rintro e _⟨rfl,rfl⟩;go_wp2_with fail
 refine (zkx bk w2 (HX.out.c 6 (by omega))).mono ?_;rintro e _⟨rfl,rfl⟩;go_wp2_with fail
 refine (zrz bk w2 (HX.out.c 7 (by omega))).mono ?_;rintro e _⟨rfl,rfl⟩;go_wp2_with fail
 refine (zow bk w2 (HX.out.c 8 (by omega))).mono ?_;rintro e _⟨rfl,rfl⟩;go_wp2_with fail
 refine (zjz bk w2 (HX.out.c 9 (by omega))).mono ?_;rintro e _⟨rfl,rfl⟩;go_wp2_with fail
 refine (znb bk w2 (HX.out.c 10 (by omega))).mono ?_;rintro e _⟨rfl,rfl⟩;go_wp2_with fail
 refine (zme bk w2 (HX.out.c 11 (by omega))).mono ?_;rintro e _⟨rfl,rfl⟩;go_wp2_with fail
 refine (zox bk w2 (HX.out.c 1 (by omega))).mono ?_;rintro e _⟨rfl,rfl⟩;go_wp2_with fail
 refine (ztk bk rI gI w2 HI2.out.bl HI2.out.each).mono ?_;rintro e w3⟨rfl,HZ⟩;have HF3:Hid (Fr (rI.ownBlock.toList++lbs hI) w w3):=HF2.out.trans HZ (fun x hx _=>hx) (by simp);have HXn:Hid (Bx w3 bk cs):=HX.out.keep HZ (by simp);clear HX HZ HI2 HF2;have HX:=HXn;clear HXn;go_wp2_with fail
 refine (zoy bk w3 (HX.out.c 3 (by omega))).mono ?_;rintro e _⟨rfl,rfl⟩;go_wp2_with fail
 refine (znc bk w3 (HX.out.c 4 (by omega))).mono ?_;rintro e _⟨rfl,rfl⟩;go_wp2_with fail
 refine (znd bk w3 (HX.out.c 5 (by omega))).mono ?_;rintro e _⟨rfl,rfl⟩;go_wp2_with fail
 refine (zky bk w3 (HX.out.c 6 (by omega))).mono ?_;rintro e _⟨rfl,rfl⟩;go_wp2_with fail
 refine (zsa bk w3 (HX.out.c 7 (by omega))).mono ?_;rintro e _⟨rfl,rfl⟩;go_wp2_with fail
 refine (zoz bk w3 (HX.out.c 8 (by omega))).mono ?_;rintro e _⟨rfl,rfl⟩;go_wp2_with fail
 refine (zka bk w3 (HX.out.c 9 (by omega))).mono ?_;rintro e _⟨rfl,rfl⟩;go_wp2_with fail
 refine (zne bk w3 (HX.out.c 10 (by omega))).mono ?_;rintro e _⟨rfl,rfl⟩;go_wp2_with fail
 refine (zmf bk w3 (HX.out.c 11 (by omega))).mono ?_;rintro e _⟨rfl,rfl⟩;go_wp2_with fail
 go_ret;exact⟨rfl,HF3.out⟩
section
variable{K J:Kd}{S:List Nat}{w w':World}{bk:Nat}{rv rv':Value}{hs:List HB}{cs':Array Value}
theorem S0.told(h:S0 K w bk rv hs)(l:Value)(n:Nat)(hb:w'.heap[bk]? = some (.cells cs' 42 (0,0)))(hc:cs'[K.col]? = some rv')(hrow:w'.ownsRow 0 K.tH 3 rv' (hs.length+1) (zbf (hs++[⟨l,.slice none 0 0,n⟩])))(hf:Fr (bk::rv.ownBlock.toList) w w')(hp:P0 K w ⟨l,.slice none 0 0,n⟩)(hn:n<4194304)(hfew:hs.length+1<2097152)(hal:∀k,l.ownBlock=some k->k∉lbs hs):S0 K w' bk rv' (hs++[⟨l,.slice none 0 0,n⟩]):=by
 obtain⟨cs,h1,_⟩:=h.bl.box;have hE:∀k cs,w.heap[k]? = some (.cells cs K.tE (0,0))->k∉bk::rv.ownBlock.toList:=by
  intro k cs hk hm;obtain⟨q1,q2⟩:=h.bl.apart hk;rcases List.mem_cons.1 hm with e|hm
  .exact q1 e
  exact q2 (by simpa using hm)
 have hget:∀(j:Nat)(b:HB),(hs++[⟨l,.slice none 0 0,n⟩])[j]? = some b->hs[j]? = some b\/(j=hs.length/\b=⟨l,.slice none 0 0,n⟩):=by
  intro j b hb;by_cases hj:j<hs.length
  .rw[List.getElem?_append_left hj]at hb
   exact Or.inl hb
  rw[List.getElem?_append_right (by omega)]at hb
  by_cases hj2:j=hs.length
  .subst hj2;simp at hb;exact Or.inr ⟨rfl,hb.symm⟩
  rw[List.getElem?_eq_none (by simp;omega)]at hb
  cases hb
 refine⟨⟨⟨cs',hb,hc⟩,by simpa using hrow,by simpa using hfew,?_⟩,?_,?_,?_⟩
 .intro j b hb;rcases hget j b hb with hb|⟨_,rfl⟩
  .exact h.bl.num j b hb
  exact hn
 .intro j b hb;rcases hget j b hb with hb|⟨_,rfl⟩
  .exact (h.each j b hb).keep hf (fun k hk=>by obtain⟨c,hc⟩:=(h.each j b hb).type k hk;exact hE k c hc)
  exact hp.keep hf (fun k hk=>by obtain⟨c,hc⟩:=hp.type k hk;exact hE k c hc)
 .intro i j a b ha hb hij k hk hkb;rcases hget i a ha with ha|⟨hi,rfl⟩
  .rcases hget j b hb with hb|⟨hj,rfl⟩
   .exact h.alone i j a b ha hb hij k hk hkb
   exact hal k hkb (mem_lbs.2 ⟨a,List.mem_of_getElem? ha,hk⟩)
  rcases hget j b hb with hb|⟨hj,rfl⟩
  .exact hal k hk (mem_lbs.2 ⟨b,List.mem_of_getElem? hb,hkb⟩)
  omega
 intro j b hb;rcases hget j b hb with hb|⟨_,rfl⟩
 .exact h.fresh j b hb
 rfl
end
structure B1(w0 w:World)(bk T:Nat)(rI:Value)(hI:List HB):Prop where
 box:∃cs,Bx w bk cs/\cs[0]? = some (.int .i64 (T:Int))
 sI:S0 kInt w bk rI hI
 bn:w0.heap.size<=bk
 rIn:∀k,rI.ownBlock=some k->w0.heap.size<=k
 lI:hI.length<=T
theorem ztl(hs:List HB)(h:HB):(hs++[h]).length=hs.length+1:=by simp
theorem Bx.told{w w':World}{bk:Nat}{cs:Array Value}(h:Bx w bk cs)(T':Value)(c:Nat)(rv':Value)(hc:c=2)(hb:w'.heap[bk]? = some (.cells ((cs.setIfInBounds 0 T').setIfInBounds c rv') 42 (0,0))) :
  Bx w' bk ((cs.setIfInBounds 0 T').setIfInBounds c rv')/\((cs.setIfInBounds 0 T').setIfInBounds c rv')[0]? = some T'/\((cs.setIfInBounds 0 T').setIfInBounds c rv')[c]? = some rv'/\∀j,j≠0->j≠c->((cs.setIfInBounds 0 T').setIfInBounds c rv')[j]? = cs[j]? :=by
 have h12:=h.size;have hoth:∀j,j≠0->j≠c->((cs.setIfInBounds 0 T').setIfInBounds c rv')[j]? = cs[j]? :=by
  intro j h0 h1;rw[Array.getElem?_setIfInBounds_ne (fun e=>h1 e.symm),Array.getElem?_setIfInBounds_ne (fun e=>h0 e.symm)]
 refine⟨⟨hb,by simpa using h12,fun j hj=> ?_⟩,?_,?_,hoth⟩
 .rw[hoth j (by omega) (by omega)];exact h.rest j hj
 .rw[Array.getElem?_setIfInBounds_ne (by omega),Array.getElem?_setIfInBounds_self];simp[h12]
 rw[Array.getElem?_setIfInBounds_self];simp[h12];omega
theorem ztn{w0 w:World}{bk T:Nat}{rI:Value}{hI:List HB}(h:B1 w0 w bk T rI hI)(ao:Option Addr)(L cap:Nat)(hp:P0 kInt w ⟨.slice ao L cap,.slice none 0 0,T+1⟩)(hal:∀k,(Value.slice ao L cap).ownBlock=some k->k∉lbs hI)(hT2:T<2097150) :
  Calls prog 16 #[.pointer (some ⟨bk,0,none⟩),.slice ao L cap] w fun e w'=>e=.returned (.tuple #[])/\∃rv',B1 w0 w' bk (T+1) rv' (hI++[⟨.slice ao L cap,.slice none 0 0,T+1⟩])/\Fr (bk::rI.ownBlock.toList) w w'/\Moved w.heap.size rI rv':=by
 obtain⟨cs,hX,hc0⟩:=h.box;have hbl:=h.sI.bl;obtain⟨cs1,b1,hc1⟩:=hbl.box;have e1:=hX.box;rw[b1]at e1
 simp only[Option.some.injEq,Obj.cells.injEq,and_true]at e1;subst e1;have hlen:=h.lI;refine (ztm bk cs1 rI hI T ao L cap w b1 hX.size hc0 hc1 hbl.row (by omega) (by omega)).mono ?_;rintro e w'⟨rfl,rv',hb',hrow',hF',hM'⟩;obtain⟨hX',k0,k1,koth⟩:=hX.told _ 2 rv' (by omega) hb';have hbn:=h.bn;refine⟨rfl,rv',⟨⟨_,hX',by rw[k0];simp⟩,?_,h.bn,?_,?_⟩,hF',hM'⟩
 .exact h.sI.told (.slice ao L cap) (T+1) hb' k1 hrow' hF' hp (by omega) (by omega) hal
 .exact hM'.lt (by have:=hX.box;have:=lt_of_block this;omega) h.rIn
 rw[ztl];omega
theorem ints_any{w0 w:World}{bk T:Nat}{rI:Value}{hI:List HB}(h:B1 w0 w bk T rI hI)(ao:Option Addr)(L cap:Nat)(hp:P0 kInt w ⟨.slice ao L cap,.slice none 0 0,T+1⟩)(hal:∀k,(Value.slice ao L cap).ownBlock=some k->k∉lbs hI)(hT2:T<2097150) :
  Calls prog 6 #[.pointer (some ⟨bk,0,none⟩),.slice ao L cap] w fun e w'=>e=.returned (.tuple #[])/\∃rv',B1 w0 w' bk (T+1) rv' (hI++[⟨.slice ao L cap,.slice none 0 0,T+1⟩])/\Fr (bk::rI.ownBlock.toList) w w'/\Moved w.heap.size rI rv':=by
 have HC:Hid _:=ztn h ao L cap hp hal hT2;clear h hp hal;go_enter func6,ntmps6;go_wp2_with fail
 refine Calls.mono HC.out ?_;rintro e w'⟨rfl,R⟩;have HR:Hid _:=R;clear R HC;go_wp2_with fail
 go_end0
 exact⟨rfl,HR.out⟩
end Bq
end Go.Proofs.YtojjdnjfaelnfaaGreatDoor
