/- Contracts and lemmas. -/
import Derived.Test.YtojjdnjfaelnfaaGreatDoorGp5
import Derived.Shelf.SlIterI.Nil
import Derived.Shelf.SortM.Plain
import Derived.Shelf.SortM.SortNone
import Derived.Shelf.Slices.CompactI
import Derived.Sort.OwnSortedInts
import Derived.Test.YtojjdnjfaelnfaaGreatDoorGp6
set_option maxHeartbeats 4000000
set_option maxRecDepth 100000
set_option linter.unusedSimpArgs false
set_option linter.unusedVariables false
namespace Go.Proofs
open Go.RowKit Go.Maps Go.Sort Go.Shelf
shelf_lay_g SlLaysM.n5 Slgm 5 at Tryz 94 as Tryz.sortA
shelf_lay Lays2.n20 Nm2 20 at Tryz as Tryz.compactA
end Go.Proofs
namespace Go.Proofs.YtojjdnjfaelnfaaGreatDoor
open Go.ChangeShapes Go.WideShapes Go.ChangeAt Go.RowKit Go.Lib Go.Maps Go.Sort Go.Shelf
structure Good(D:Dt):Prop where
 op:∀m,D.op m->1<=m/\m<=65536
 ah:∀m,D.op m->(D.ah m).length<=65536/\∀x∈D.ah m,1<=x/\x<=65536
 bh:∀m,D.op m->(D.bh m).length<=65536/\∀x∈D.bh m,1<=x/\x<=65536
 last:∀k,i64 (D.last k)
theorem Inv.good{D:Dt}{L:Lg}{en:Int->Prop}(h:Inv D L en)(hn:D.newest<=65536):Good D:=by
 have h1:∀m,D.op m->1<=m/\m<=65536:=fun m hm=>by
  obtain⟨⟨p,hp,e⟩,_⟩:=(h.op m).1 hm;have:=h.ris.pos p hp;have:=h.new.1 p hp;omega
 refine⟨h1,fun m hm=> ?_,fun m hm=> ?_,fun k=> ?_⟩
 .have hx:∀x∈D.ah m,1<=x/\x<=65536:=fun x hx=>by
   have:=((h.ah m hm).2.1 x hx).lt h.ris;have:=h1 m hm;omega
  exact⟨(h.ah m hm).1.few (a:=1) (n:=65536) (fun x hx'=>by have:=hx x hx';omega),hx⟩
 .have hx:∀x∈D.bh m,1<=x/\x<=65536:=fun x hx=>h1 x (((h.bh m hm).2 x).1 hx).1;exact⟨(h.bh m hm).1.few (a:=1) (n:=65536) (fun x hx'=>by have:=hx x hx';omega),hx⟩
 rw[h.last];by_cases h0:lst L k=0
 .rw[h0];exact⟨by omega,by omega⟩
 obtain⟨ks,h2,_⟩:=zhb L k h.ris h0;have:=h.ris.pos _ h2;have:=h.new.1 _ h2;simp only at *;exact⟨by omega,by omega⟩
theorem i64.of{x:Int}(h:1<=x/\x<=65536):i64 x:=⟨by omega,by omega⟩
theorem zus{tb:Nat}{B:List Nat}{n:Nat}{D:Dt}(m:Int)(w:World)(h:Tb w tb B n D)(G:Good D)(hm:D.op m) :
  Calls Tryz.prog 383 #[.pointer (some ⟨tb,0,none⟩),.int .i64 m] w fun e w'=>∃so N c ys,e=.returned (.tuple #[.slice so N c,.int .i64 0])/\IOw w.heap.size w' so N c ys/\AwT D m ys/\Fr [] w w':=by
 have HT:Hid (Calls ..):=zhc w h;have HK:Hid (∀W,Fr [] w W->Tb W tb B n D):=fun W hf=>h.quiet hf;have HM:Hid (D.op m):=hm;have hmi:i64 m:=.of (G.op m hm);have HG:Hid (Good D):=G;clear h hm G;go_enter Tryz.func383,Tryz.ntmps383;go_wp2_with fail
 refine Calls.mono HT.out ?_;rintro e w1⟨rfl,hF1⟩;go_wp2_with fail
 refine (zgi m true _ (HK.out _ hF1) hmi ⟨fun _=>HM.out,fun _=>rfl⟩).mono ?_;rintro e w2⟨rfl,hF2⟩;have hG2:=hF1.then hF2;go_wp2_with fail
 refine (zil m _ (HK.out _ hG2) HM.out hmi (fun x hx=> .of ((HG.out.ah m HM.out).2 x hx)) (by have:=(HG.out.ah m HM.out).1;omega)).mono ?_;rintro e w3⟨so,N,c,ys,rfl,hO,hA,hF3⟩;have HR:Hid (_/\_/\_):=⟨hO.low hG2.size,hA,hG2.then hF3⟩;clear hO hA;go_wp2;refine bodyPost_ret (results_tmp2 rfl _ _ _) rfl ?_;exact⟨so,N,c,ys,rfl,HR.out⟩
theorem zakr{tb:Nat}{B:List Nat}{n:Nat}{D:Dt}(m:Int)(w:World)(h:Tb w tb B n D)(hmi:i64 m)(hm:¬D.op m) :
  Calls Tryz.prog 383 #[.pointer (some ⟨tb,0,none⟩),.int .i64 m] w fun e w'=>e=.returned (.tuple #[.slice none 0 0,.int .i64 1])/\Fr [] w w':=by
 have HT:Hid (Calls ..):=zhc w h;have HK:Hid (∀W,Fr [] w W->Tb W tb B n D):=fun W hf=>h.quiet hf;have HM:Hid (¬D.op m):=hm;clear h hm;go_enter Tryz.func383,Tryz.ntmps383;go_wp2_with fail
 refine Calls.mono HT.out ?_;rintro e w1⟨rfl,hF1⟩;go_wp2_with fail
 refine (zgi m false _ (HK.out _ hF1) hmi ⟨fun h=>(by cases h),fun h=>absurd h HM.out⟩).mono ?_;rintro e w2⟨rfl,hF2⟩;have hG2:=hF1.then hF2;go_wp2;refine bodyPost_ret (results_tmp2 rfl _ _ _) rfl ?_;exact⟨rfl,hG2⟩
theorem zaah(zs:List Int):(zs.mergeSort fun x y=>decide (x<=y)).Pairwise (fun x y=>x<=y):=by
 have tr:∀a b c:Int,(fun x y:Int=>decide (x<=y)) a b=true->(fun x y:Int=>decide (x<=y)) b c=true->(fun x y:Int=>decide (x<=y)) a c=true:=fun a b c h1 h2=>by simp only[decide_eq_true_eq]at *;omega
 have tq:∀a b:Int,((fun x y:Int=>decide (x<=y)) a b||(fun x y:Int=>decide (x<=y)) b a)=true:=fun a b=>by simp only[Bool.or_eq_true,decide_eq_true_eq];omega
 exact (List.pairwise_mergeSort tr tq zs).imp fun h=>by simpa using h
end Go.Proofs.YtojjdnjfaelnfaaGreatDoor
namespace Go.Proofs.YtojjdnjfaelnfaaGreatDoor
open Go.ChangeShapes Go.WideShapes Go.ChangeAt Go.RowKit Go.Lib Go.Maps Go.Sort Go.Shelf Go.Proofs.Tryz
theorem zxe(base:Nat)(so:Option Addr)(N c:Nat)(zs:List Int)(w:World)(h:IOw base w so N c zs)(hN:N<1099511627776) :
  Calls prog 94 #[.slice so N c] w fun e w'=>e=.returned (.tuple #[])/\IOw base w' so N c (zs.mergeSort fun x y=>decide (x<=y))/\Fr (Value.slice so N c).ownBlock.toList w w':=by
 obtain⟨hlen,hrow⟩:=h;rcases hrow.2 with⟨hv,h0⟩|⟨g,cap,cur,hv,hbase,hb,h1,h2,h3,h4⟩
 .cases hv;obtain rfl:zs=[]:=List.eq_nil_of_length_eq_zero (by omega);have hcon:=AnyM.slices_Sort_int_none sortA none 0 w
  change Calls prog 94 _ _ _ at hcon
  refine hcon.mono ?_;rintro e w'⟨rfl,rfl⟩;exact⟨rfl,⟨by simp,by simpa using hrow⟩,Fr.refl _ _⟩
 cases hv;have ht:cur.toList.take zs.length=zs.map (Value.int .i64):=by
  rw[<-hlen];simpa[ints]using h4
 have hcon:=AnyM.slices_Sort_int sortA g 0 c zs w (holds_of_blockI hb ht) (lt_of_block hb) (by omega)
 change Calls prog 94 _ _ _ at hcon
 rw[<-hlen]at hcon
 refine hcon.mono ?_;rintro e w'⟨rfl,n,os,rfl⟩;have hl2:(zs.mergeSort fun x y=>decide (x<=y)).length=zs.length:=List.length_mergeSort _;have hso:=ownsRow_sortedI (n:=n) (os:=os) (base:=base) (cap:=c) (e:=3) (ss:=zs) (ts:=zs.mergeSort fun x y=>decide (x<=y)) hl2 hbase hb (by omega) h2 (by simpa using h3);rw[<-hlen]at hso
 exact⟨rfl,⟨by rw[hl2];exact hlen,hso⟩,Fr.grown (grownBy_sortedI _) (fun k hk _=>by simpa[Value.ownBlock]using hk.symm)⟩
theorem zuv(zs:List Int)(h:zs.Pairwise fun x y=>x<=y):Ris (Lib.compact zs)/\∀x,x∈Lib.compact zs↔x∈zs:=by
 have hg:∀m,m<zs.length->zs.toArray[m]! = zs.getD m 0:=fun m hm=>by simp[List.getD,hm]
 have hle:∀i j,i<j->j<zs.length->zs.getD i 0<=zs.getD j 0:=fun i j hij hj=>by
  have:=List.pairwise_iff_getElem.1 h i j (by omega) hj hij;simpa[List.getD,hj,show i<zs.length by omega]using this
 have key:∀m,m<=zs.length->Ris (Lib.compactUpTo zs.toArray m)/\∀x,x∈Lib.compactUpTo zs.toArray m↔ ∃j,j<m/\zs.getD j 0=x:=by
  intro m;induction m with
  |zero=>intro _;exact⟨by simp[Lib.compactUpTo,Ris],fun x=>by simp[Lib.compactUpTo]⟩
  |succ m ih=>
   intro hm;obtain⟨h1,h2⟩:=ih (by omega);rw[Lib.compactUpTo_succ];by_cases hk:Lib.keeps zs.toArray m=true
   .rw[if_pos hk,hg m (by omega)];refine⟨h1.snoc (fun x hx=> ?_),fun x=> ?_⟩
    .obtain⟨j,hj,rfl⟩:=(h2 x).1 hx;have hne:zs.getD m 0≠zs.getD (m-1) 0:=fun e=>by
      have:=Lib.keeps_neg (d:=zs.toArray) (m:=m) (by omega) (by rw[hg m (by omega),hg (m-1) (by omega)];exact e);rw[this]at hk
      cases hk
     have e1:=hle (m-1) m (by omega) (by omega);by_cases hj2:j=m-1
     .rw[hj2];omega
     have:=hle j (m-1) (by omega) (by omega);omega
    rw[List.mem_append,h2 x];simp only[List.mem_singleton];constructor
    .rintro (⟨j,hj,e⟩|e)
     .exact⟨j,by omega,e⟩
     exact⟨m,by omega,e.symm⟩
    rintro⟨j,hj,e⟩;by_cases hjm:j=m
    .subst hjm;exact Or.inr e.symm
    exact Or.inl ⟨j,by omega,e⟩
   rw[if_neg hk,List.append_nil];refine⟨h1,fun x=> ?_⟩;rw[h2 x];constructor
   .rintro⟨j,hj,e⟩;exact⟨j,by omega,e⟩
   rintro⟨j,hj,e⟩;by_cases hjm:j=m
   .subst hjm;have h0:0<j:=by
     rcases Nat.eq_zero_or_pos j with h0|h0
     .subst h0;exact absurd (by simp[Lib.keeps]) hk
     exact h0
    refine⟨j-1,by omega,?_⟩;rw[<-e,<-hg j (by omega),<-hg (j-1) (by omega)];exact Classical.byContradiction fun hne=>hk (Lib.keeps_pos (fun e2=>hne e2.symm))
   exact⟨j,by omega,e⟩
 obtain⟨h1,h2⟩:=key zs.length (Nat.le_refl _);refine⟨h1,fun x=> ?_⟩;rw[show Lib.compact zs=Lib.compactUpTo zs.toArray zs.length from rfl,h2 x,List.mem_iff_getElem];constructor
 .rintro⟨j,hj,e⟩;exact⟨j,hj,by simpa[List.getD,hj]using e⟩
 rintro⟨j,hj,e⟩;exact⟨j,hj,by simpa[List.getD,hj]using e⟩
theorem zpj(base:Nat)(so:Option Addr)(N c:Nat)(zs:List Int)(w:World)(h:IOw base w so N c zs)(hN:N<1099511627776)(hle:(Lib.compact zs).length<=N) :
  Calls prog 281 #[.slice so N c] w fun e w'=>∃N',e=.returned (.slice so N' c)/\N'<=N/\IOw base w' so N' c (Lib.compact zs)/\Fr (Value.slice so N c).ownBlock.toList w w':=by
 have hcap:=h.cap;obtain⟨hlen,hrow⟩:=h;rcases hrow.2 with⟨hv,h0⟩|⟨g,cap,cur,hv,hbase,hb,h1,h2,h3,h4⟩
 .cases hv;obtain rfl:zs=[]:=List.eq_nil_of_length_eq_zero (by omega);have hcon:=Any.slices_Compact_int_empty compactA none 0 w
  change Calls prog 281 _ _ _ at hcon
  refine hcon.mono ?_;rintro e w'⟨rfl,rfl⟩;exact⟨0,rfl,Nat.le_refl _,⟨rfl,hrow⟩,Fr.refl _ _⟩
 cases hv;have ht:cur.toList.take zs.length=zs.map (Value.int .i64):=by
  rw[<-hlen];simpa[ints]using h4
 have hcon:=Any.slices_Compact_int compactA g 0 c zs w (holds_of_blockI hb ht) (by omega) (by omega)
 change Calls prog 281 _ _ _ at hcon
 rw[<-hlen]at hcon
 refine hcon.mono ?_;rintro e w'⟨rfl,q,rfl⟩;have hcs:cur.size=c:=by simpa using h3
 have hlL:(Lib.compact zs++List.replicate (N-(Lib.compact zs).length) 0).length=N:=by simp;omega
 refine⟨_,rfl,hle,⟨rfl,by simp[ints],.inr ⟨g,c,putCells (Value.int .i64) 0 (Lib.compact zs++List.replicate (N-(Lib.compact zs).length) 0).toArray cur,rfl,hbase,?_,by omega,h2,by simp[putCells,hcs],?_⟩⟩,?_⟩
 .have:=heap_sortedI (w:=w) (g:=g) (n:=q) (os:=#[]) (cur:=cur) (e:=3) (fr:=(0,0)) (Lib.compact zs++List.replicate (N-(Lib.compact zs).length) 0).toArray hb;rw[grow_empty]at this
  exact this
 .have:=take_putCellsI cur (Lib.compact zs++List.replicate (N-(Lib.compact zs).length) 0) (by rw[hlL];omega);rw[hlL]at this
  have h6:=congrArg (List.take (Lib.compact zs).length) this;rw[List.take_take,Nat.min_eq_left hle]at h6
  rw[Nat.mul_one,h6];simp[ints]
 have:=grownBy_sortedI (w:=w) (g:=g) (n:=q) (os:=#[]) (Lib.compact zs++List.replicate (N-(Lib.compact zs).length) 0).toArray;rw[grow_empty]at this
 exact Fr.grown this (fun k hk _=>by simpa[Value.ownBlock]using hk.symm)
theorem zsh(zs:List Int):(Lib.compact zs).length<=zs.length:=by
 unfold Lib.compact Lib.compactUpTo;rw[List.length_map];exact Nat.le_trans (List.length_filter_le _ _) (by simp)
def zar(ws:List Wt):List ByteArray:=ws.map (·.key)
theorem zkb(ws:List Wt)(i:Nat)(h:i<ws.length):ws.getD i Wt.zero∈ws:=by simp[List.getD,h]
theorem zpk{tb:Nat}{B:List Nat}{n:Nat}{D:Dt}(wo:Option Addr)(M mc:Nat)(ws:List Wt)(w:World)(h:Tb w tb B n D)(hW:WRs w wo ws)(hM:M=ws.length)(hMf:M<=65536)(hl:∀k,i64 (D.last k)) :
  Calls prog 278 #[.pointer (some ⟨tb,0,none⟩),.slice wo M mc] w fun e w'=>∃so N c xs,e=.returned (.slice so N c)/\IOw w.heap.size w' so N c xs/\AhT D (zar ws) xs/\N<=M/\Fr [] w w':=by
 classical
 obtain⟨p,hp⟩:∃p:Int->Bool,∀x,p x=decide (D.op x):=⟨fun x=>decide (D.op x),fun _=>rfl⟩;obtain⟨zs,hzs⟩:∃zs,zs=ws.map (fun x=>D.last x.key):=⟨_,rfl⟩;have HP:Hid (∀x,p x=true↔D.op x):=fun x=>by rw[hp];simp
 have HZ:Hid (zs=ws.map (fun x=>D.last x.key)):=hzs;have HM:Hid (M=ws.length):=hM;have HL:Hid (∀k,i64 (D.last k)):=hl;have HK:Hid (∀W,Fr [] w W->Tb W tb B n D):=fun W hf=>h.quiet hf;have HW:Hid (∀W,Fr [] w W->WRs W wo ws):=fun W hf=>hW.keep hf;clear h hp hzs hM hl hW;go_enter func278,ntmps278;go_wp2_with fail
 go_loopw [5,11] (fun ll ii wr=>∃(i:Nat)(so:Option Addr)(N c:Nat),ii=.int .i64 i/\i<=M/\ll=.slice so N c/\Hid (IOw w.heap.size wr so N c ((zs.take i).filter p))/\N<=i/\Fr [] w wr) (fun _ ii _=>M-(RowKit.intOf ii).toNat)
 case atStart=>exact⟨0,none,0,0,rfl,Nat.zero_le _,rfl,IOw.nil _ _,Nat.le_refl _,Fr.refl _ _⟩
 obtain⟨i,so,N,c,rfl,hiM,rfl,HO,hNi,hF⟩:=hrel;by_cases hi:i<M
 .have hi':i<ws.length:=by rw[<-HM.out];exact hi
  obtain⟨b2,o2,e2,_,hc2⟩:=(HW.out _ hF).lies (by omega);obtain⟨d0,d1,d2⟩:=hc2 i hi';have hm:=zkb ws i hi';have hkz:=((HW.out _ hF).each _ hm).1;obtain⟨y,hyy⟩:∃y,y=ws.getD i Wt.zero:=⟨_,rfl⟩;rw[<-hyy]at d0 d1 d2 hkz
  have hzy:zs.getD i 0=D.last y.key:=by rw[HZ.out,hyy];simp[List.getD,hi']
  have HS:=zfc zs p i (by rw[HZ.out];simpa using hi');rw[hzy]at HS
  obtain⟨key,val,drop⟩:=y;simp only at d0 d1 d2 hkz hzy HS;obtain⟨x,hx⟩:∃x,D.last key=x:=⟨_,rfl⟩;rw[hx]at HS
  have hxi:i64 x:=by rw[<-hx];exact HL.out key
  have HS:Hid ((zs.take (i+1)).filter p=_):=HS;obtain⟨lb,ob,wb,E,hT⟩:=HK.out _ hF;have HT:Hid (∀W,Fr [] wr W->TbI W tb lb ob wb B n D E):=fun W hf=>hT.keep hf (by simp);clear hyy hc2 hm hzy hT;subst e2;obtain⟨w1,HW1⟩:∃w1,Hid (wr.alloc (.cells #[.string key,.string val,.bool drop] 91)=w1):=⟨_,rfl⟩;have hF1:Fr [] wr w1:=by rw[<-HW1.out];exact Fr.alloc _ _ _
  have hT1:=HT.out _ hF1;have t0:=hT1.c0;have tl:∀q,(Instr.lookup 280 (.map (some lb)) (.string key) false).run prog (w1.drewN q)=.ok (.int .i64 x) (w1.drewN q):=fun q=>by
   have:=(hT1.keep (Fr.drewN [] w1 q) (by simp)).lookL key (by unfold maxLen;omega)
   rwa [hx]at this
  have hb1:w1.heap[wr.heap.size]? = some (.cells #[.string key,.string val,.bool drop] 91 (0,0)):=by rw[<-HW1.out];exact heap_alloc_new _ _
  have k0:w1.cell? ⟨wr.heap.size,0,none⟩=some (.string key):=by rw[crw hb1];rfl
  have HX:Hid (D.last key=x):=hx;have HB:Hid (∀W W',Fr [] wr W->Fr (Value.slice so N c).ownBlock.toList W W'->Fr [] w W'):=fun W W' h1 h2=>HO.out.on (Nat.le_refl _) hF h1 h2;have HO2:Hid (∀W,Fr [] wr W->IOw w.heap.size W so N c ((zs.take i).filter p)):=fun W hf=>HO.out.keep hf;clear hT1 hx hb1 HO;go_upto_region 5 with fail
  rw[HW1.out]
  go_quiet (fail)
  obtain⟨w2,HW2⟩:∃w2,Hid (w1.drewN nq=w2):=⟨_,rfl⟩;rw[HW2.out];have hF2:Fr [] wr w2:=by rw[<-HW2.out];exact hF1.then (Fr.drewN _ _ _)
  clear HW2 HW1 hF1 t0 tl k0;obtain⟨q,hq⟩:∃q,p x=q:=⟨_,rfl⟩;have HQ:Hid (p x=q):=hq;rw[hq]at HS
  clear hq;have HIs:Hid (Calls ..):=zgi x q w2 (HK.out _ (hF.then hF2)) hxi (by rw[<-HQ.out];exact HP.out x);cases q with
  |true=>
   rw[if_pos rfl]at HS
   go_wp2_with fail
   refine Calls.mono HIs.out ?_;rintro e w3⟨rfl,hF3⟩;have hG3:=hF2.then hF3;clear HIs hF2 hF3 d0 d1 d2;go_wp2_with (first
    |(
     at_builtin;refine zcq w.heap.size _ rfl _ _ rfl so N c _ rfl (HO2.out _ (hG3.then (Fr.alloc [] _ _))) _ _ x rfl ?hcell (by omega) ?hsize ?_
     case hcell=>exact zct _ _ _
     case hsize=>have:=hF.size;have:=hG3.size;simp;omega
     intro o' c' w4 hO3 hF3 _;have HR3:Hid (_/\_):=⟨hO3,HB.out _ _ (hG3.then (Fr.alloc [] _ _)) hF3⟩;clear hO3 hF3;go_frame)
    |fail)
   go_roundw;case rel=>exact⟨i+1,o',N+1,c',rfl,by omega,rfl,(by rw[HS.out];exact HR3.out.1),by omega,HR3.out.2⟩
   case measure=>simp[RowKit.intOf];omega
  |false=>
   rw[if_neg (by simp)]at HS
   go_wp2_with fail
   refine Calls.mono HIs.out ?_;rintro e w3⟨rfl,hF3⟩;have hG3:=hF2.then hF3;have HR3:Hid (_/\_):=⟨HO2.out _ hG3,hF.then hG3⟩;rw[<-HS.out]at HR3
   clear HIs hF2 hF3 d0 d1 d2;go_wp2_with fail
   go_roundw;case rel=>exact⟨i+1,so,N,c,rfl,by omega,rfl,HR3.out.1,by omega,HR3.out.2⟩
   case measure=>simp[RowKit.intOf];omega
 obtain rfl:i=M:=by omega
 rw[List.take_of_length_le (by rw[HZ.out,List.length_map,<-HM.out];exact Nat.le_refl _)]at HO
 have HSo:Hid (Calls ..):=zxe w.heap.size so N c _ wr HO.out (by omega);have HB:Hid (∀W',Fr (Value.slice so N c).ownBlock.toList wr W'->Fr [] w W'):=fun W' h2=>HO.out.on (Nat.le_refl _) hF (Fr.refl _ _) h2;have HNl:Hid (N=(zs.filter p).length):=HO.out.len;clear HO;go_wp2_with fail
 refine Calls.mono HSo.out ?_;rintro e w1⟨rfl,hO1,hF1⟩;obtain⟨ms,hms⟩:∃ms,ms=(zs.filter p).mergeSort fun x y=>decide (x<=y):=⟨_,rfl⟩;rw[<-hms]at hO1
 have hG1:=HB.out _ hF1;have hsl:ms.Pairwise fun x y=>x<=y:=by rw[hms];exact zaah _
 have hmm:∀x,x∈ms↔x∈zs.filter p:=fun x=>by rw[hms];exact (List.mergeSort_perm _ _).mem_iff
 obtain⟨hcr,hcm⟩:=zuv ms hsl;have HCo:Hid (Calls ..):=zpj w.heap.size so N c ms w1 hO1 (by omega) (by rw[hO1.len];exact zsh _);have HB1:Hid (∀W',Fr (Value.slice so N c).ownBlock.toList w1 W'->Fr [] w W'):=fun W' h2=>hO1.on (Nat.le_refl _) hG1 (Fr.refl _ _) h2;have HR:Hid (AhT D (zar ws) (Lib.compact ms)):=by
  refine⟨hcr,fun x=> ?_⟩;rw[hcm,hmm,List.mem_filter,HP.out,HZ.out,zar];simp only[List.mem_map];constructor
  .rintro⟨⟨y,hy,e⟩,h2⟩;exact⟨h2,y.key,⟨y,hy,rfl⟩,e⟩
  rintro⟨h2,k,⟨y,hy,rfl⟩,e⟩;exact⟨⟨y,hy,e⟩,h2⟩
 clear HSo hO1 hF1 hms hsl hmm hcr hcm HB;go_wp2_with fail
 refine Calls.mono HCo.out ?_;rintro e w2⟨N',rfl,hN',hO2,hF2⟩;have HR2:Hid (_/\_):=⟨hO2,HB1.out _ hF2⟩;clear hO2 hF2;go_wp2;go_ret;exact⟨so,N',c,_,rfl,HR2.out.1,HR.out,by omega,HR2.out.2⟩
theorem zhd{P:Program}(w:World){ops:Array Oper}{rest:List Oper}{op:Oper}{a:Act}{Q:Exit->Act->World->Prop}(hgd:op.guard=none)(m x:Operand)(t k:TypeId)(ho:op.op=.call {callee:=.builtin .delete,args:=#[m,x],argTypes:=#[t,k]})(mv kv:Value)(hm:a.eval m=mv)(hx:a.eval x=kv){R:World->Prop}(hE:∃w',(Builtin.delete_ #[t,k] op.type #[mv,kv]).run P w=.ok (.tuple #[]) w'/\R w')(h:∀w',R w'->wpList P ops Q rest (a.put op.dst (.tuple #[])) w'):wpList P ops Q (op::rest) a w:=by
 refine wpList_plain hgd fun K hK=> ?_;obtain⟨w',hr,hR⟩:=hE;unfold Oper.wp execOp;simp only[ho,resolve,invoke,builtin,Sem.run_bind,Sem.run_pure,Result.andThen_ok,List.map_toArray,List.map_cons,List.map_nil,hm,hx,hr];exact hK _ _ (h w' hR)
def Dt.less(D:Dt)(m:Int)(ys:List Int):Dt:={D with wt:=fun x y=>D.wt x y/\¬(x∈ys/\y=m)}
theorem Dt.less_nil(D:Dt)(m:Int):D.less m []=D:=by
 unfold Dt.less;cases D;simp
theorem Dt.less_snoc(D:Dt)(m x:Int)(ys:List Int):{ (D.less m ys) with wt:=fun a y=>(D.less m ys).wt a y/\¬(a=x/\y=m)}=D.less m (ys++[x]):=by
 unfold Dt.less;simp only[Dt.mk.injEq,true_and]
 funext a y
 simp only[List.mem_append,List.mem_singleton,eq_iff_iff];constructor
 .rintro⟨⟨h1,h2⟩,h3⟩;exact⟨h1,fun⟨h4,h5⟩=>h4.elim (fun h=>h2 ⟨h,h5⟩) (fun h=>h3 ⟨h,h5⟩)⟩
 rintro⟨h1,h2⟩;exact⟨⟨h1,fun⟨h4,h5⟩=>h2 ⟨Or.inl h4,h5⟩⟩,fun⟨h4,h5⟩=>h2 ⟨Or.inr h4,h5⟩⟩
theorem Dt.less_done(D:Dt)(m:Int)(h:∀a,D.wt a m->a∈D.bh m):{ (D.less m (D.bh m)) with op:=fun x=>(D.less m (D.bh m)).op x/\x≠m}=D.done m:=by
 unfold Dt.less Dt.done;simp only[Dt.mk.injEq,true_and]
 funext a y
 simp only[eq_iff_iff];constructor
 .rintro⟨h1,h2⟩;exact⟨h1,fun e=>h2 ⟨h a (e▸h1),e⟩⟩
 rintro⟨h1,h2⟩;exact⟨h1,fun h3=>h2 h3.2⟩
def DoS(D:Dt)(m:Int)(zs:List Int):Prop:=∃p:Int->Bool,zs=(D.bh m).filter p/\∀x,p x=true↔ ∀y∈D.ah x,D.wt x y->y=m
theorem DoS.of{D:Dt}{L:Lg}{en:Int->Prop}(h:Inv D L en){m:Int}(hm:D.op m){zs:List Int}(hz:DoS D m zs):DoT L D.op m zs:=by
 obtain⟨p,rfl,hp⟩:=hz;refine⟨(h.bh m hm).1.filter _,fun o=> ?_⟩;rw[List.mem_filter,(h.bh m hm).2 o,hp o];constructor
 .rintro⟨⟨h1,h2⟩,h3⟩;refine⟨h1,h2,fun y hy hne hd=>hne (h3 y ((h.ah o h1).2.2 y hd hy) ((h.wt o y).2 ⟨h1,hy,hd⟩))⟩
 rintro⟨h1,h2,h3⟩;refine⟨⟨h1,h2⟩,fun y hy hw=> ?_⟩;obtain⟨_,h5,h6⟩:=(h.wt o y).1 hw;exact Classical.byContradiction fun hne=>h3 y h5 hne h6
theorem zxg{tb:Nat}{B:List Nat}{n:Nat}{D:Dt}(m:Int)(w:World)(h:Tb w tb B n D)(G:Good D)(hm:D.op m)(hno:∀x∈D.ah m,¬D.wt m x)(hbo:∀x∈D.bh m,D.op x)(hbw:∀a,D.wt a m->a∈D.bh m) :
  Calls prog 378 #[.pointer (some ⟨tb,0,none⟩),.int .i64 m] w fun e w'=>∃so N c zs,e=.returned (.tuple #[.slice so N c,.int .i64 0])/\IOw w.heap.size w' so N c zs/\DoS D m zs/\Tb w' tb B n (D.done m)/\Fr B w w':=by
 classical
 obtain⟨p,hp⟩:∃p:Int->Bool,∀x,p x=decide (∀y∈D.ah x,D.wt x y->y=m):=⟨fun x=>decide (∀y∈D.ah x,D.wt x y->y=m),fun _=>rfl⟩;have HP:Hid (∀x,p x=true↔ ∀y∈D.ah x,D.wt x y->y=m):=fun x=>by rw[hp];simp
 have HC:Hid (Calls ..):=zus m w h G hm;obtain⟨lb,ob,wb,E,hT⟩:=h;have hmi:i64 m:=.of (G.op m hm);obtain⟨e0,he0⟩:∃e0,E m=some e0:=Option.isSome_iff_exists.1 ((hT.opn m).2 hm);obtain⟨xs,hxs⟩:∃xs,xs=D.bh m:=⟨_,rfl⟩;obtain⟨h1,h2,h3,h4,h5,h6⟩:=hT.ent m e0 he0;rw[<-hxs]at h4
 obtain⟨eg,ea,⟨bo,bn,bc⟩⟩:=e0;simp only at *;have HXS:Hid (xs=D.bh m):=hxs;have HN:Hid (bn=xs.length):=h4.len;have hbf:bn<=65536:=by rw[HN.out,hxs];exact (G.bh m hm).1
 have HT:Hid (TbI w tb lb ob wb B n D E):=hT;have HG:Hid (Good D):=G;have HM:Hid (D.op m):=hm;have HBo:Hid (∀x∈xs,D.op x):=by rw[hxs];exact hbo
 have HBw:Hid (∀a,D.wt a m->a∈D.bh m):=hbw;have HNo:Hid (∀x∈D.ah m,¬D.wt m x):=hno;have HE:Hid (E m=some ⟨eg,ea,⟨bo,bn,bc⟩⟩):=he0;have HRow:Hid (IOw 0 w bo bn bc xs/\∀k,(Value.slice bo bn bc).ownBlock=some k->k≠wb):=⟨h4,fun k hk e=>by
  obtain⟨_,cur,hc⟩:=h4.blk hk;exact zai hc hT.bW e⟩
 clear hp h1 h2 h3 h4 h5 h6 he0 hxs hT G hm hno hbo hbw;go_enter func378,ntmps378;go_wp2_with fail
 refine Calls.mono HC.out ?_;rintro e w1⟨so,N,c,ys,rfl,hO,hA,hF1⟩;have hN:N=0:=by
  obtain⟨q,hq,hq2⟩:=hA.sub;rw[hO.len,hq,List.length_eq_zero_iff,List.filter_eq_nil_iff];exact fun x hx hx2=>HNo.out x hx ((hq2 x).1 hx2)
 subst hN;have hT1:=HT.out.keep hF1 (by simp);have c2:=hT1.c2;have hl:=hT1.lookE m hmi _ HE.out;have cb:w1.cell? ⟨eg,1,none⟩=some (.slice bo bn bc):=by rw[crw (hT1.ent m _ HE.out).1];rfl
 have HR1:Hid (IOw 0 w1 bo bn bc xs):=HRow.out.1.keep hF1;have HT1:Hid (TbI w1 tb lb ob wb B n D E):=hT1;clear hO hA hT1 HC;go_wp2_with fail
 go_loopw [8,33] (fun ll ii wr=>∃(i:Nat)(so:Option Addr)(N c:Nat),ii=.int .i64 i/\i<=bn/\ll=.slice so N c/\N<=i/\Hid (IOw w1.heap.size wr so N c ((xs.take i).filter p))/\Hid (TbI wr tb lb ob wb B n (D.less m (xs.take i)) E)/\Hid (Fr [wb] w1 wr)) (fun _ ii _=>bn-(RowKit.intOf ii).toNat)
 case atStart=>exact⟨0,none,0,0,rfl,Nat.zero_le _,rfl,Nat.le_refl _,IOw.nil _ _,(by rw[List.take_zero,Dt.less_nil];exact HT1.out),Fr.refl _ _⟩
 obtain⟨i,so,N,c,rfl,hiN,rfl,hNi,HO,HTi,HFi⟩:=hrel;by_cases hi:i<bn
 .obtain⟨g,rfl,_,_,hcs⟩:=(HR1.out.keepS HFi.out (fun k hk=>by simpa using HRow.out.2 k hk)).cells (by omega);have hg:=hcs i hi;have hil:i<xs.length:=by rw[<-HN.out];exact hi
  obtain⟨x,hxe⟩:∃x,x=xs.getD i 0:=⟨_,rfl⟩;rw[<-hxe]at hg
  have hxo:D.op x:=by rw[hxe];exact HBo.out _ (zik xs i hil)
  have hxi:i64 x:=.of (HG.out.op x hxo);have c3:=HTi.out.c3;have HS:=zfc xs p i hil;rw[<-hxe]at HS
  have HS:Hid ((xs.take (i+1)).filter p=_):=HS;have HDl:Hid (D.less m (xs.take (i+1))={ (D.less m (xs.take i)) with wt:=fun a y=>(D.less m (xs.take i)).wt a y/\¬(a=x/\y=m)}):=by
   rw[Dt.less_snoc,hxe,show xs.take (i+1)=xs.take i++[xs.getD i 0] from by rw[List.take_add_one];simp[List.getD,hil]];exact rfl
  have HDr:Hid (∀ty,∃w',(Builtin.delete_ #[282,396] ty #[.map (some wb),.agg #[.int .i64 x,.int .i64 m]]).run prog wr=.ok (.tuple #[]) w'/\(TbI w' tb lb ob wb B n (D.less m (xs.take (i+1))) E/\Fr [wb] wr w')):=fun ty=>by
   obtain⟨w',j1,j2,j3⟩:=HTi.out.dropW x m hxi hmi ty;exact⟨w',j1,by rw[HDl.out];exact j2,j3⟩
  have hmem:x∈xs.take (i+1):=by rw[hxe,show xs.take (i+1)=xs.take i++[xs.getD i 0] from by rw[List.take_add_one];simp[List.getD,hil]];simp
  have HMem:Hid (x∈xs.take (i+1)):=hmem;have HOw:Hid (∀k,(Value.slice so N c).ownBlock=some k->w1.heap.size<=k/\k≠wb):=fun k hk=>by
   obtain⟨h1,cur,h2⟩:=HO.out.blk hk;exact⟨h1,zai h2 HTi.out.bW⟩
  have HO2:Hid (∀W,Fr [wb] wr W->IOw w1.heap.size W so N c ((xs.take i).filter p)):=fun W hf=>HO.out.keepS hf (fun k hk=>by simpa using (HOw.out k hk).2);have hsz:w1.heap.size<=wr.heap.size:=HFi.out.size;clear hcs hxe HO hmem;go_wp2_with (first|(at_delete;refine zhd _ rfl _ _ _ _ rfl (.map (some wb)) (.agg #[.int .i64 x,.int .i64 m]) rfl rfl (HDr.out _) ?_;rintro w2⟨hT2,hF2⟩;have HT2:Hid (TbI w2 tb lb ob wb B n (D.less m (xs.take (i+1))) E):=hT2;have HF2:Hid (Fr [wb] wr w2):=hF2;clear hT2 hF2)|fail)
  refine (zil x _ ⟨_,_,_,_,HT2.out⟩ hxo hxi (fun y hy=> .of ((HG.out.ah x hxo).2 y hy)) (by have:=(HG.out.ah x hxo).1;show (D.ah x).length<_;omega)).mono ?_;rintro e w3⟨ao,A,ac,ys,rfl,hOa,hAw,hF3⟩;have hiff:p x=true↔A=0:=by
   obtain⟨q,hq,hq2⟩:=hAw.sub;rw[hOa.len,hq,List.length_eq_zero_iff,List.filter_eq_nil_iff,HP.out x];constructor
   .intro h1 y hy hy2;obtain⟨h2,h3⟩:=(hq2 y).1 hy2;exact h3 ⟨HMem.out,h1 y hy h2⟩
   intro h1 y hy hw;exact Classical.byContradiction fun hne=>h1 y hy ((hq2 y).2 ⟨hw,fun h2=>hne h2.2⟩)
  have HT3:Hid (TbI w3 tb lb ob wb B n (D.less m (xs.take (i+1))) E):=HT2.out.keep hF3 (by simp);have hF23:Fr [wb] wr w3:=HF2.out.then (hF3.mono (by simp));have hsz3:w1.heap.size<=w3.heap.size:=Nat.le_trans hsz hF23.size;have HF3:Hid (Fr [wb] w1 w3):=HFi.out.then hF23;have HO3:Hid (IOw w1.heap.size w3 so N c ((xs.take i).filter p)):=HO2.out _ hF23;clear hOa hAw HT2 HF2 hF3 HDr hF23;by_cases hA:A=0
  .have hpx:=hiff.2 hA;rw[hpx,if_pos rfl]at HS
   subst hA;have HO4:Hid (∀W,Fr [] w3 W->IOw w1.heap.size W so N c ((xs.take i).filter p)):=fun W hf=>HO3.out.keep hf;have HK4:Hid (∀W',Fr (Value.slice so N c).ownBlock.toList (w3.alloc (.cells #[.int .i64 x] 3)) W'->TbI W' tb lb ob wb B n (D.less m (xs.take (i+1))) E/\Fr [wb] w1 W'):=fun W' hf=>by
    have hT4:=HT3.out.keep (Fr.alloc [] w3 (.cells #[.int .i64 x] 3)) (by simp);refine⟨hT4.keep hf (fun j hj hj2=> ?_),(HF3.out.then (Fr.alloc [wb] _ _)).trans hf (fun y hy _=>hy) (fun y hy hl=> ?_)⟩
    .have:=(HOw.out j (Option.mem_toList.1 hj2)).1;have:=HT1.out.mine j hj;omega
    have:=(HOw.out y (Option.mem_toList.1 hy)).1;omega
   clear hiff hpx;go_wp2_with (first
    |(
     at_builtin;refine zcq w1.heap.size _ rfl _ _ rfl so N c _ rfl (HO4.out _ (Fr.alloc [] _ _)) _ _ x rfl ?hcell (by omega) ?hsize ?_
     case hcell=>exact zct _ _ _
     case hsize=>simp;omega
     intro o' c' w4 hO4 hF4 _;have HR4:Hid (_/\_):=⟨hO4,HK4.out _ hF4⟩;clear hO4 hF4;go_frame)
    |fail)
   go_roundw;case rel=>exact⟨i+1,o',N+1,c',rfl,by omega,rfl,by omega,(by rw[HS.out];exact HR4.out.1),HR4.out.2.1,HR4.out.2.2⟩
   case measure=>simp[RowKit.intOf];omega
  have hpx:p x=false:=by
   cases hq:p x with
   |false=>rfl
   |true=>exact absurd (hiff.1 hq) hA
  rw[hpx,if_neg (by simp)]at HS
  clear hiff hpx;go_wp2_with fail
  go_roundw;case rel=>exact⟨i+1,so,N,c,rfl,by omega,rfl,by omega,(by rw[HS.out];exact HO3.out),HT3.out,HF3.out⟩
  case measure=>simp[RowKit.intOf];omega
 obtain rfl:bn=i:=by omega
 rw[List.take_of_length_le (by rw[<-HN.out];exact Nat.le_refl _)]at HO HTi
 have c2:=HTi.out.c2;have HDr:Hid (∀ty,∃w',(Builtin.delete_ #[281,3] ty #[.map (some ob),.int .i64 m]).run prog wr=.ok (.tuple #[]) w'/\(Tb w' tb B n (D.done m)/\IOw w1.heap.size w' so N c (xs.filter p)/\Fr B w w')):=fun ty=>by
  obtain⟨w',j1,j2,j3⟩:=HTi.out.dropO m hmi ty;rw[HXS.out]at j2
  have e:=Dt.less_done D m HBw.out;have j4:TbI w' tb lb ob wb B n (D.done m) (updF E m none):=by rw[<-e];exact j2
  have f1:Fr B w w':=((hF1.mono (T:=B) (by simp)).then (HFi.out.mono (by simpa using fun _=>HT1.out.bw))).then (j3.mono (by simpa using fun _=>HT1.out.bo));exact⟨w',j1,⟨lb,ob,wb,_,j4⟩,HO.out.keepS j3 (fun k hk=>by
   obtain⟨_,cur,hc⟩:=HO.out.blk hk;simpa using zai hc HTi.out.bO),f1⟩
 go_wp2_with (first|(at_delete;refine zhd _ rfl _ _ _ _ rfl (.map (some ob)) (.int .i64 m) rfl rfl (HDr.out _) ?_;rintro w2 hR2;have HR2:Hid (_/\_/\_):=hR2;clear hR2)|fail)
 refine bodyPost_ret (results_tmp2 rfl _ _ _) rfl ?_;exact⟨so,N,c,xs.filter p,rfl,HR2.out.2.1.low hF1.size,⟨p,by rw[HXS.out],HP.out⟩,HR2.out.1,HR2.out.2.2⟩
end Go.Proofs.YtojjdnjfaelnfaaGreatDoor
