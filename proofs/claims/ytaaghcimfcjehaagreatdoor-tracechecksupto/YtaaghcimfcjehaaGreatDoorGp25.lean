/- Contracts and plain lemmas of this claim. -/
import Derived.Test.YtaaghcimfcjehaaGreatDoorGp7
import Derived.Deep.CutRange
set_option linter.unusedSimpArgs false
set_option linter.unusedVariables false
set_option maxHeartbeats 16000000
set_option maxRecDepth 100000
namespace Go.Proofs.YtaaghcimfcjehaaGreatDoor
open Go.ChangeShapes Go.WideShapes Go.ChangeAt Go.RowKit Go.Lib Go.Maps
theorem zuy (m:Int) (ao:Option Addr) (L cap:Nat) (xs:List Int) (w:World) (hX:IRs w ao xs) (hL:L=xs.length) (hok:Gok m xs) :
  Calls Tryz.prog 30 #[.int .i64 m,.slice ao L cap] w fun e w'=> ∃g lo c,e= .returned (.tuple #[.pointer (some ⟨g,0,none⟩),.int .i64 0])/\w.heap.size<=g/\OG w' g lo L c m xs/\(∀b,qb lo=some b->w.heap.size<=b)/\Fr [] w w':=by
 have HM:Hid (Calls _ _ _ _ _):=zux m ao L cap xs true w hX hL ⟨fun _=>hok,fun _=>rfl⟩
 have HX:Hid (∀W,Fr [] w W->IRs W ao xs):=fun W hf=>hX.keep hf
 have HL:Hid (L=xs.length):=hL
 have hLL:L<=65536:=by rw[hL];exact hok.1.few
 have HO:Hid (Gok m xs):=hok
 clear hX hL hok
 go_enter Tryz.func30,Tryz.ntmps30
 go_wp2_with fail
 refine Calls.mono HM.out ?_
 rintro e w1 ⟨rfl,hF⟩
 go_wp2_with (at_builtin;refine zmb _ rfl (.tmp 12) (.tmp 13) rfl rfl ao L cap xs rfl (HX.out _ hF) HL.out (by omega) ?_;intro bo rc w2 hO2 hF2)
 refine bodyPost_ret (results_tmp2 rfl _ _ _) rfl ?_
 have hA:Fr [] w2 (w2.alloc (.cells #[.int .i64 m,.slice bo L rc] 124)):=Fr.alloc _ _ _
 refine⟨w2.heap.size,bo,rc,rfl,?_,⟨heap_alloc_new w2 _,hO2.qr.keep hA (by simp),HO.out⟩,fun b hb=> ?_,(hF.then hF2).then hA⟩
 ·have:=hF.size;have:=hF2.size;omega
 ·have:=(hO2.qb hb).2;have:=hF.size;omega
theorem zkq {n:Int}: ∀ {A:List Int},(∀x∈A,¬n<x)->insI n A=A++[n]
 | [],_=>rfl
 | a::A,h=>by
  unfold insI
  rw[if_neg (h a (by simp)),zkq (fun x hx=>h x (by simp[hx]))]
  rfl
theorem zkr {n x:Int} {B:List Int} (hx:n<x): ∀ {A:List Int},(∀x∈A,¬n<x)->insI n (A++x::B)=A++n::x::B
 | [],_=>by
  show insI n (x::B)=_
  unfold insI
  rw[if_pos hx]
  rfl
 | a::A,h=>by
  show insI n (a::(A++x::B))=_
  unfold insI
  rw[if_neg (h a (by simp)),zkr hx (fun x hx=>h x (by simp[hx]))]
  rfl
def Mid (n:Int) (xs:List Int) (i:Nat) (p:Bool) (zs:List Int):Prop:=(p=true->zs++xs.drop i=insI n xs)/\(p=false->zs=xs.take i/\ ∀x∈xs.take i,¬n<x)
theorem zis {xs:List Int} {i:Nat} (h:i<xs.length):xs.drop i=xs.getD i 0::xs.drop (i+1):=by
 rw[List.drop_eq_getElem_cons h];simp[List.getD,h]
theorem Mid.on {n:Int} {xs:List Int} {i:Nat} {zs:List Int} (h:Mid n xs i true zs) (hi:i<xs.length):Mid n xs (i+1) true (zs++[xs.getD i 0]):=by
 refine⟨fun _=> ?_,fun e=>(by cases e)⟩
 rw[<-h.1 rfl,zis hi]
 simp
theorem Mid.put {n:Int} {xs:List Int} {i:Nat} {zs:List Int} (h:Mid n xs i false zs) (hi:i<xs.length) (hx:n<xs.getD i 0):Mid n xs (i+1) true (zs++[n]++[xs.getD i 0]):=by
 obtain⟨rfl,h2⟩:=h.2 rfl
 refine⟨fun _=> ?_,fun e=>(by cases e)⟩
 have e1:xs=xs.take i++xs.getD i 0::xs.drop (i+1):=by rw[<-zis hi,List.take_append_drop]
 have e2:=zkr (B:=xs.drop (i+1)) hx h2
 rw[<-e1]at e2
 rw[e2]
 simp
theorem Mid.skip {n:Int} {xs:List Int} {i:Nat} {zs:List Int} (h:Mid n xs i false zs) (hi:i<xs.length) (hx: ¬n<xs.getD i 0):Mid n xs (i+1) false (zs++[xs.getD i 0]):=by
 obtain⟨rfl,h2⟩:=h.2 rfl
 refine⟨fun e=>(by cases e),fun _=>⟨(zbm xs i hi).symm,fun y hy=> ?_⟩⟩
 rw[zbm xs i hi]at hy
 rcases List.mem_append.1 hy with e|e
 ·exact h2 y e
 ·rw[List.mem_singleton]at e;rw[e];exact hx
theorem Mid.end1 {n:Int} {xs zs:List Int} {i:Nat} (h:Mid n xs i true zs) (hi:xs.length<=i):zs=insI n xs:=by
 have:=h.1 rfl
 rwa [List.drop_eq_nil_of_le hi,List.append_nil]at this
theorem Mid.end0 {n:Int} {xs zs:List Int} {i:Nat} (h:Mid n xs i false zs) (hi:xs.length<=i):zs++[n]=insI n xs:=by
 obtain⟨rfl,h2⟩:=h.2 rfl
 rw[List.take_of_length_le hi]at h2 ⊢
 exact (zkq h2).symm
theorem Qr.tail {w:World} {lo lo':Option Addr} {n c:Nat} {x:Int} {xs:List Int} (h:Qr w lo (n+1) c (x::xs)) (b off:Nat) (e:lo=some ⟨b,off,none⟩) (e':lo'=if c=1 then some ⟨b,off,none⟩ else some ⟨b,off+1,none⟩):Qr w lo' n (c-1) xs:=by
 have h1:=h.len
 have h2:=h.fit
 refine⟨by simpa using h1,by omega,.inr ?_⟩
 rcases h.row with ⟨h3,_⟩|⟨b',off',cur,h3,hb,hc⟩
 ·rw[e]at h3;cases h3
 ·rw[e]at h3
  cases h3
  by_cases h4:c=1
  ·rw[if_pos h4]at e'
   exact⟨b,off,cur,e',hb,fun i hi=>by omega⟩
  ·rw[if_neg h4]at e'
   refine⟨b,off+1,cur,e',hb,fun i hi=> ?_⟩
   have:=hc (i+1) (by omega)
   rw[show off+1+i=off+(i+1) by omega,this]
   rfl
theorem zoo {w:World} {g:Nat} {m:Int} {v:Value} (n:Int) (h:w.heap[g]? = some (.cells #[.int .i64 m,v] 124 (0,0))):(w.setCell ⟨g,0,none⟩ (.int .i64 n)).heap[g]? = some (.cells #[.int .i64 n,v] 124 (0,0)):=zek (xs:=[.int .i64 m,v]) _ h
theorem zsc {w:World} {g:Nat} {m:Int} {v:Value} (u:Value) (h:w.heap[g]? = some (.cells #[.int .i64 m,v] 124 (0,0))):(w.setCell ⟨g,1,none⟩ u).heap[g]? = some (.cells #[.int .i64 m,u] 124 (0,0)):=zek (xs:=[.int .i64 m,v]) _ h
section
variable {g N c:Nat} {lo:Option Addr} {m:Int} {xs:List Int}
theorem zuz (n:Int) (w:World) (h:OG w g lo N c m xs) (hn:n<1\/65536<n\/n<=m\/n∈xs) :
  Calls Tryz.prog 134 #[.pointer (some ⟨g,0,none⟩),.int .i64 n] w fun e w'=>e= .returned (.tuple #[.int .i64 0,.int .i64 1])/\Fr [] w w':=by
 by_cases h1:n<1
 ·clear hn h
  go_enter Tryz.func134,Tryz.ntmps134
  go_wp2
  refine bodyPost_ret (results_tmp2 rfl _ _ _) rfl ?_
  exact⟨rfl,Fr.refl _ _⟩
 by_cases h2:65536<n
 ·clear hn h
  go_enter Tryz.func134,Tryz.ntmps134
  go_wp2
  refine bodyPost_ret (results_tmp2 rfl _ _ _) rfl ?_
  exact⟨rfl,Fr.refl _ _⟩
 have hq:n<=m\/n∈xs:=by
  rcases hn with e|e|e
  ·exact absurd e h1
  ·exact absurd e h2
  ·exact e
 have HHas:Hid (Calls _ _ _ _ _):=zkp n true w h ⟨fun e=>⟨by omega,hq⟩,fun e=>rfl⟩
 clear hn h hq
 go_enter Tryz.func134,Tryz.ntmps134
 go_wp2_with fail
 refine Calls.mono HHas.out ?_
 rintro e w1 ⟨rfl,hF1⟩
 go_wp2
 refine bodyPost_ret (results_tmp2 rfl _ _ _) rfl ?_
 exact⟨rfl,hF1⟩
theorem zsd (n:Int) (w:World) (h:OG w g lo N c m xs) (h1:1<=n) (h2:n<=65536) (hn: ¬(n<=m\/n∈xs)) :
  Calls Tryz.prog 134 #[.pointer (some ⟨g,0,none⟩),.int .i64 n] w fun e w'=>e= .returned (.tuple #[.int .i64 ((adv m (insI n xs)).1-m),.int .i64 0])/\(∃lo' N' c',OG w' g lo' N' c' (adv m (insI n xs)).1 (adv m (insI n xs)).2/\ ∀b,qb lo'=some b->w.heap.size<=b)/\Fr [g] w w':=by
 have HHas:Hid (Calls _ _ _ _ _):=zkp n false w h ⟨fun e=>(by cases e),fun e=>absurd e.2 hn⟩
 have hGi:=h.ok.1.ins h1 h2 hn
 have hA:=zfi (insI n xs) m hGi
 have HQ:Hid (∀W,Fr [] w W->OG W g lo N c m xs):=fun W hf=>h.keep hf (by simp) (by simp)
 have HN:Hid (N=xs.length):=h.row.len
 have hN:=h.few
 have hm0:=h.ok.1.low
 have hm1:=h.ok.1.top
 obtain⟨A,hAA⟩: ∃A,A=adv m (insI n xs):=⟨_,rfl⟩
 rw[<-hAA]at hA ⊢
 have HG0:Hid (Gt m (insI n xs)/\adv m (insI n xs)=A):=⟨hGi,hAA.symm⟩
 have HOk:Hid (Gok A.1 A.2):=⟨hA.1,hA.2.1⟩
 clear h hn hGi hA hAA
 go_enter Tryz.func134,Tryz.ntmps134
 go_wp2_with fail
 refine Calls.mono HHas.out ?_
 rintro e w1 ⟨rfl,hF1⟩
 have HF1:Hid (Fr [] w w1):=hF1
 clear hF1 HHas
 go_wp2_with fail
 go_loopw [6,7,8] (fun ll pp ii wr=> ∃(i M:Nat) (p:Bool) (so:Option Addr) (sc:Nat) (zs:List Int),ll= .slice so M sc/\pp= .bool p/\ii= .int .i64 i/\i<=N/\M<=i+1/\Hid (IOw w.heap.size wr so M sc zs)/\Hid (Mid n xs i p zs)/\Hid (Fr [] w wr)) (fun _ _ ii _=>N-(RowKit.intOf ii).toNat)
 case atStart=>exact⟨0,0,false,none,0,[],rfl,rfl,rfl,Nat.zero_le _,by omega,IOw.nil _ _,⟨fun e=>(by cases e),fun _=>⟨rfl,by simp⟩⟩,HF1⟩
 case round =>
  obtain⟨i,M,p,so,sc,zs,rfl,rfl,rfl,hi1,hM,HO,HZ,HF⟩:=hrel
  have hog:=HQ.out _ HF.out
  have c1:=hog.c1
  have hsz:=HF.out.size
  by_cases hi:i<N
  ·have hix:i<xs.length:=by rw[<-HN.out];exact hi
   obtain⟨bb,off,rfl,hbl,hci⟩:=hog.row.at_ hi
   obtain⟨x,hx⟩: ∃x,x=xs.getD i 0:=⟨_,rfl⟩
   rw[<-hx]at hci
   have HX:Hid (x=xs.getD i 0):=hx
   have HC:Hid (∀W,Fr [] w W->W.cell? ⟨g,1,none⟩=some (.slice (some ⟨bb,off,none⟩) N c)/\W.cell? ⟨bb,off+i,none⟩=some (.int .i64 x)):=fun W hf=>by
    have h3:=HQ.out _ hf
    refine⟨h3.c1,?_⟩
    obtain⟨b',off',e,_,hc'⟩:=h3.row.at_ hi
    cases e
    rw[HX.out]
    exact hc'
   have HO2:Hid (∀W,Fr [] wr W->IOw w.heap.size W so M sc zs):=fun W hf=>HO.out.keep hf
   have HB2:Hid (∀W W',Fr [] wr W->Fr (Value.slice so M sc).ownBlock.toList W W'->Fr [] w W'):=fun W W' h1 h2=>HO.out.on (Nat.le_refl _) HF.out h1 h2
   clear hx hog
   cases p with
   | true =>
    have HZ2:Hid (Mid n xs (i+1) true (zs++[x])):=by rw[Hid,HX.out];exact HZ.out.on hix
    go_wp2_with (at_builtin;refine zat w.heap.size _ rfl (.tmp 49) (.tmp 57) rfl so M sc _ rfl (HO2.out _ (Fr.alloc [] _ _)) ⟨wr.heap.size,0,none⟩ 1 x rfl ?c1 ?c2 ?c3 ?_)
    case c1=>exact zaw _ _ _
    case c2=>omega
    case c3=>first|omega|(simp;omega)
    intro o' c' w6 hO6 hF6 hm6
    have HO6:Hid (IOw w.heap.size w6 o' (M+1) c' (zs++[x])):=hO6
    have HF6:Hid (Fr [] w w6):=HB2.out _ _ (Fr.alloc [] _ _) hF6
    clear hO6 hF6 hm6 HO HO2 HF HB2 HC
    go_wp2
    go_roundw
    case rel=>exact⟨i+1,M+1,true,o',c',_,rfl,rfl,by simp,by omega,by omega,HO6,HZ2,HF6⟩
    case measure=>simp[RowKit.intOf];omega
   | false =>
    have hMi:M<=i:=by
     rw[HO.out.len,(HZ.out.2 rfl).1]
     exact List.length_take_le _ _
    by_cases hnx:n<x
    ·have HZ2:Hid (Mid n xs (i+1) true (zs++[n]++[x])):=by rw[Hid,HX.out];exact HZ.out.put hix (by rw[<-HX.out];exact hnx)
     go_upto_region 12 with (at_builtin;refine zat w.heap.size _ rfl (.tmp 45) (.tmp 47) rfl so M sc _ rfl (HO2.out _ (Fr.alloc [] _ _)) ⟨wr.heap.size,0,none⟩ 1 n rfl ?c1 ?c2 ?c3 ?_)
     case c1=>exact zaw _ _ _
     case c2=>omega
     case c3=>first|omega|(simp;omega)
     intro o' c' w6 hO6 hF6 hm6
     have HF6:Hid (Fr [] w w6):=HB2.out _ _ (Fr.alloc [] _ _) hF6
     obtain⟨k1,k2⟩:=HC.out _ HF6.out
     have hs6:=HF6.out.size
     have HO7:Hid (∀W,Fr [] w6 W->IOw w.heap.size W o' (M+1) c' (zs++[n])):=fun W hf=>hO6.keep hf
     have HB7:Hid (∀W W',Fr [] w6 W->Fr (Value.slice o' (M+1) c').ownBlock.toList W W'->Fr [] w W'):=fun W W' h1 h2=>hO6.on (Nat.le_refl _) HF6.out h1 h2
     clear hO6 hF6 hm6 HO HO2 HF HB2 HC
     go_wp2_with (at_builtin;refine zat w.heap.size _ rfl (.tmp 49) (.tmp 57) rfl o' (M+1) c' _ rfl (HO7.out _ (Fr.alloc [] _ _)) ⟨w6.heap.size,0,none⟩ 1 x rfl ?c1 ?c2 ?c3 ?_)
     case c1=>exact zaw _ _ _
     case c2=>omega
     case c3=>first|omega|(simp;omega)
     intro o8 c8 w8 hO8 hF8 hm8
     have HO8:Hid (IOw w.heap.size w8 o8 (M+1+1) c8 (zs++[n]++[x])):=by rw[Hid,List.append_assoc];exact hO8
     have HF8:Hid (Fr [] w w8):=HB7.out _ _ (Fr.alloc [] _ _) hF8
     clear hO8 hF8 hm8 HO7 HF6 HB7
     go_wp2
     go_roundw
     case rel=>exact⟨i+1,M+1+1,true,o8,c8,_,rfl,rfl,by simp,by omega,by omega,HO8,HZ2,HF8⟩
     case measure=>simp[RowKit.intOf];omega
    ·have HZ2:Hid (Mid n xs (i+1) false (zs++[x])):=by rw[Hid,HX.out];exact HZ.out.skip hix (by rw[<-HX.out];exact hnx)
     go_wp2_with (at_builtin;refine zat w.heap.size _ rfl (.tmp 49) (.tmp 57) rfl so M sc _ rfl (HO2.out _ (Fr.alloc [] _ _)) ⟨wr.heap.size,0,none⟩ 1 x rfl (zaw _ _ _) ?c2 ?c3 ?_)
     case c2=>omega
     case c3=>first|omega|(simp;omega)
     intro o' c' w6 hO6 hF6 hm6
     have HO6:Hid (IOw w.heap.size w6 o' (M+1) c' (zs++[x])):=hO6
     have HF6:Hid (Fr [] w w6):=HB2.out _ _ (Fr.alloc [] _ _) hF6
     clear hO6 hF6 hm6 HO HO2 HF HB2 HC
     go_wp2
     go_roundw
     case rel=>exact⟨i+1,M+1,false,o',c',_,rfl,rfl,by simp,by omega,by omega,HO6,HZ2,HF6⟩
     case measure=>simp[RowKit.intOf];omega
  ·have hxi:xs.length<=i:=by rw[<-HN.out];omega
   have hil: ¬(i:Int)<(N:Int):=by omega
   clear hog
   go_upto_if 60 with fail
   go_cut [6] from 23 (fun v wx=> ∃(so:Option Addr) (M sc:Nat),v= .slice so M sc/\M<=65538/\Hid (IOw w.heap.size wx so M sc (insI n xs))/\Hid (Fr [] w wx))
   case first =>
    cases p with
    | true =>
     have HO2:Hid (IOw w.heap.size wr so M sc (insI n xs)):=by rw[Hid,<-HZ.out.end1 hxi];exact HO.out
     go_wp2
     go_meet
     case rel=>exact⟨so,M,sc,rfl,by omega,HO2,HF⟩
    | false =>
     have HO2:Hid (∀W,Fr [] wr W->IOw w.heap.size W so M sc zs):=fun W hf=>HO.out.keep hf
     have HB2:Hid (∀W W',Fr [] wr W->Fr (Value.slice so M sc).ownBlock.toList W W'->Fr [] w W'):=fun W W' h1 h2=>HO.out.on (Nat.le_refl _) HF.out h1 h2
     have HE:Hid (zs++[n]=insI n xs):=HZ.out.end0 hxi
     clear c1
     go_wp2_with (at_builtin;refine zat w.heap.size _ rfl (.tmp 61) (.tmp 63) rfl so M sc _ rfl (HO2.out _ (Fr.alloc [] _ _)) ⟨wr.heap.size,0,none⟩ 1 n rfl (zaw _ _ _) ?c2 ?c3 ?_)
     case c2=>omega
     case c3=>first|omega|(simp;omega)
     intro o' c' w6 hO6 hF6 hm6
     rw[HE.out]at hO6
     have HO6:Hid (IOw w.heap.size w6 o' (M+1) c' (insI n xs)):=hO6
     have HF6:Hid (Fr [] w w6):=HB2.out _ _ (Fr.alloc [] _ _) hF6
     clear hO6 hF6 hm6 HO HO2 HF HB2
     go_wp2
     go_meet
     case rel=>exact⟨o',M+1,c',rfl,by omega,HO6,HF6⟩
   case rest =>
    clear HO HZ HF hM hi hi1 hsz c1 hxi hil
    obtain⟨so,M,sc,rfl,hMb,HO,HF⟩:=hcut
    have hbox:=(HQ.out _ HF.out).box
    have HB0:Hid (wc.heap[g]? = some (.cells #[.int .i64 m,.slice lo N c] 124 (0,0))):=hbox
    have HI0:Hid (Qr wc so M sc (insI n xs)/\ ∀b,qb so=some b->w.heap.size<=b):=⟨HO.out.qr,fun b hb=>(HO.out.qb hb).2⟩
    have HF0:Hid (Fr [g] w wc):=HF.out.mono (by simp)
    have hgw:g<w.heap.size:=(HQ.out _ (Fr.refl _ _)).lt
    clear hbox HO HF HQ
    go_wp2_with fail
    go_loopg [6,9] M (fun k ll nn wr=> ∃(so:Option Addr) (j sc:Nat) (K:Int) (ys:List Int),k=j/\ll= .slice so j sc/\nn= .int .i64 (K-m)/\m<=K/\K<=65536/\j<=65538/\Hid (wr.heap[g]? = some (.cells #[.int .i64 K,.slice lo N c] 124 (0,0)))/\Hid (Qr wr so j sc ys/\ ∀b,qb so=some b->w.heap.size<=b)/\Hid (Gt K ys/\adv K ys=A)/\Hid (Fr [g] w wr))
    case atStart=>exact⟨so,M,sc,m,insI n xs,rfl,rfl,by rw[Int.sub_self],Int.le_refl _,hm1,hMb,HB0,HI0,HG0,HF0⟩
    case round =>
     clear HB0 HI0 HG0 HF0
     obtain⟨so,j,sc,K,ys,hgk,rfl,rfl,hK0,hK1,hj,HB,HI,HA,HF⟩:=hrel
     have HGk:Hid (gk=j):=hgk
     clear hgk
     have k0:wr.cell? ⟨g,0,none⟩=some (.int .i64 K):=by rw[cell_of_row _ _ _ _ _ _ HB.out];rfl
     have k1:wr.cell? ⟨g,1,none⟩=some (.slice lo N c):=by rw[cell_of_row _ _ _ _ _ _ HB.out];rfl
     have HAft:Hid (∀q,(wr.drewN q).heap[g]? = some (.cells #[.int .i64 K,.slice lo N c] 124 (0,0))/\(wr.drewN q).cell? ⟨g,0,none⟩=some (.int .i64 K)/\(wr.drewN q).frozen? ⟨g,0,none⟩=false/\(wr.drewN q).frozen? ⟨g,1,none⟩=false):=fun q=>by
      have hb:=(Fr.drewN [] wr q).keep HB.out (by simp)
      exact⟨hb,by rw[cell_of_row _ _ _ _ _ _ hb];rfl,by simp only[World.frozen?,hb];rfl,by simp only[World.frozen?,hb];rfl⟩
     have hKb:K-m<=65536:=by omega
     have hstop:adv K ys=(K,ys)->Hid (∀q,OG ((wr.drewN q).setCell ⟨g,1,none⟩ (.slice so j sc)) g so j sc A.1 A.2/\(K-m=A.1-m)/\Fr [g] w ((wr.drewN q).setCell ⟨g,1,none⟩ (.slice so j sc))):=fun hst q=>by
      have hAe:A=(K,ys):=by rw[<-HA.out.2];exact hst
      have hok:Gok K ys:=by have:=HOk.out;rwa [hAe]at this
      rw[hAe]
      refine⟨⟨zsc _ (HAft.out q).1,?_,hok⟩,rfl,(HF.out.then (Fr.drewN _ _ _)).then (Fr.set _ _ _ (by simp))⟩
      refine (HI.out.1.keep (Fr.drewN [] wr q) (by simp)).keep (Fr.set (S:=[g]) _ _ _ (by simp)) (fun b hb=> ?_)
      have:=HI.out.2 b hb
      simp;omega
     cases ys with
     | nil =>
      obtain rfl:j=0:=HI.out.1.len
      have HE:=hstop rfl
      clear hstop
      go_wp2_with fail
      go_quiet (fail)
      obtain⟨hb5,k5,f50,f51⟩:=HAft.out nq
      have hE:=HE.out nq
      have HEq:Hid (K-m=A.1-m):=hE.2.1
      have HE5:Hid _:=hE
      clear hE
      go_wp2
      refine bodyPost_ret (results_tmp2 rfl _ _ _) rfl ?_
      refine⟨?_,⟨so,0,sc,HE5.out.1,fun b hb=>HI.out.2 b hb⟩,HE5.out.2.2⟩
      rw[<-HEq.out]
      rfl
     | cons x r =>
      obtain⟨j,rfl⟩: ∃j',j=j'+1:=⟨r.length,by have:=HI.out.1.len;simpa using this⟩
      obtain⟨b,off,rfl,hbl,hc0⟩:=HI.out.1.at_ (i:=0) (by omega)
      have hfit:=HI.out.1.fit
      have hc0:wr.cell? ⟨b,off,none⟩=some (.int .i64 x):=hc0
      have hp1:0<j+1:=by omega
      have hp2:(0:Int)<(j:Int)+1:=by omega
      by_cases hx:x=K+1
      ·have hxe:(x==K+1)=true:=by simpa using hx
       have HA2:Hid (Gt (K+1) r/\adv (K+1) r=A):=⟨HA.out.1.tail hx,by rw[<-HA.out.2];exact (zjp hx).symm⟩
       have hK2:K+1<=65536:=HA2.out.1.top
       have HQ2:Hid (∀q lo',lo'=(if sc=1 then some ⟨b,off,none⟩ else some ⟨b,off+1,none⟩)->Qr ((wr.drewN q).setCell ⟨g,0,none⟩ (.int .i64 (K+1))) lo' j (sc-1) r/\(∀b,qb lo'=some b->w.heap.size<=b)/\((wr.drewN q).setCell ⟨g,0,none⟩ (.int .i64 (K+1))).heap[g]? = some (.cells #[.int .i64 (K+1),.slice lo N c] 124 (0,0))/\Fr [g] w ((wr.drewN q).setCell ⟨g,0,none⟩ (.int .i64 (K+1)))):=fun q lo' hlo=>by
        have hbb: ∀b',qb lo'=some b'->w.heap.size<=b':=fun b' hb'=>by
         have e2:qb lo'=some b:=by rw[hlo];split<;>rfl
         rw[e2]at hb'
         cases hb'
         exact HI.out.2 b rfl
        refine⟨((HI.out.1.tail b off rfl hlo).keep (Fr.drewN [] wr q) (by simp)).keep (Fr.set (S:=[g]) _ _ _ (by simp)) (fun b' hb'=> ?_),hbb,zoo _ (HAft.out q).1,(HF.out.then (Fr.drewN _ _ _)).then (Fr.set _ _ _ (by simp))⟩
        have:=hbb b' hb'
        simp;omega
       clear hx hstop HA
       go_wp2_with fail
       go_quiet (fail)
       obtain⟨hb5,k5,f50,f51⟩:=HAft.out nq
       by_cases hs1:sc=1
       ·subst hs1
        have HR:=HQ2.out nq (some ⟨b,off,none⟩) (by rw[if_pos rfl])
        have HR:Hid _:=HR
        obtain rfl:j=0:=by omega
        clear HQ2 HB HI HF HAft hb5
        go_wp2
        go_roundg 0
        case measure=>have:=HGk.out;omega
        case rel=>exact⟨some ⟨b,off,none⟩,0,0,K+1,r,rfl,rfl,by congr 1;omega,by omega,by omega,by omega,HR.out.2.2.1,⟨HR.out.1,HR.out.2.1⟩,HA2,HR.out.2.2.2⟩
       ·have HR:=HQ2.out nq (some ⟨b,off+1,none⟩) (by rw[if_neg hs1])
        have HR:Hid _:=HR
        have hs2:1<=sc:=by omega
        clear HQ2 HB HI HF HAft hb5
        go_wp2
        go_roundg j
        case measure=>have:=HGk.out;omega
        case rel=>exact⟨some ⟨b,off+1,none⟩,j,sc-1,K+1,r,rfl,rfl,by congr 1;omega,by omega,by omega,by omega,HR.out.2.2.1,⟨HR.out.1,HR.out.2.1⟩,HA2,HR.out.2.2.2⟩
      ·have hxe:(x==K+1)=false:=by simpa using hx
       have HE:=hstop (zjq HA.out.1 (fun hm=>hx (HA.out.1.head.1 hm)))
       clear hstop hx
       go_wp2_with fail
       go_quiet (fail)
       obtain⟨hb5,k5,f50,f51⟩:=HAft.out nq
       have hE:=HE.out nq
       have HEq:Hid (K-m=A.1-m):=hE.2.1
       have HE5:Hid _:=hE
       clear hE
       go_wp2
       refine bodyPost_ret (results_tmp2 rfl _ _ _) rfl ?_
       refine⟨?_,⟨_,_,sc,HE5.out.1,fun b hb=>HI.out.2 b hb⟩,HE5.out.2.2⟩
       rw[<-HEq.out]
       rfl
end
theorem zxm {w:World} {g N c:Nat} {lo:Option Addr} {m n up er m':Int} {xs xs':List Int} (h:OG w g lo N c m xs) (hd:GDo m xs n up er m' xs') :
  Calls Tryz.prog 134 #[.pointer (some ⟨g,0,none⟩),.int .i64 n] w fun e w'=>e= .returned (.tuple #[.int .i64 up,.int .i64 er])/\(∃lo' N' c',OG w' g lo' N' c' m' xs'/\ ∀b,qb lo'=some b->qb lo=some b\/w.heap.size<=b)/\Fr [g] w w':=by
 rcases hd.or with ⟨k1,rfl,rfl,rfl,rfl⟩|⟨k1,rfl,rfl,k2⟩
 ·refine (zuz n w h ?_).mono ?_
  ·apply Classical.byContradiction
   intro hc
   exact k1 ⟨by have:=mt Or.inl hc;omega,by have:=mt (fun e=>Or.inr (Or.inl e)) hc;omega,fun e=>hc (Or.inr (Or.inr e))⟩
  ·rintro e w' ⟨rfl,hF⟩
   exact⟨rfl,⟨lo,N,c,h.keep hF (by simp) (by simp),fun b hb=>Or.inl hb⟩,hF.mono (by simp)⟩
 ·refine (zsd n w h k1.1 k1.2.1 k1.2.2).mono ?_
  rintro e w' ⟨rfl,⟨lo',N',c',h3,h4⟩,hF⟩
  rw[<-k2]at h3 ⊢
  exact⟨rfl,⟨lo',N',c',h3,fun b hb=>Or.inr (h4 b hb)⟩,hF⟩
end Go.Proofs.YtaaghcimfcjehaaGreatDoor
