/- Contracts and plain lemmas of this claim. -/
import Derived.Test.YtaaghcimfcjehaaGreatDoorGp11
set_option linter.unusedSimpArgs false
set_option linter.unusedVariables false
set_option maxHeartbeats 8000000
set_option maxRecDepth 100000
namespace Go.Proofs.YtaaghcimfcjehaaGreatDoor
open Go.ChangeShapes Go.WideShapes Go.ChangeAt Go.RowKit Go.Lib Go.Maps
theorem zuq (ao:Option Addr) (N c:Nat) (xs:List Int) (n:Int) (w:World) (hX:IRd w ao xs) (hN:N=xs.length) (hNf:N<1099511627776) (hR:Ris xs) :
  Calls Tryz.prog 158 #[.slice ao N c,.int .i64 n] w fun e w'=> ∃so M sc ys,e= .returned (.slice so M sc)/\M=ys.length/\IRd w' so ys/\Ris ys/\(∀m,m∈ys↔m∈xs\/m=n)/\((so=ao/\ys=xs)\/IOw w.heap.size w' so M sc ys)/\Fr [] w w':=by
 have HN:Hid (N=xs.length):=hN
 have HR:Hid (Ris xs):=hR
 have HX:Hid (∀W,Fr [] w W->IRd W ao xs):=fun W hf=>hX.keep hf
 clear hX hN hR
 go_enter Tryz.func158,Tryz.ntmps158
 go_wp2_with fail
 go_loopw [5,6,7] (fun ll pp ii wr=> ∃(i:Nat) (so:Option Addr) (M sc:Nat) (pt:Bool) (ys:List Int),ii= .int .i64 i/\i<=N/\ll= .slice so M sc/\pp= .bool pt/\M<=i+1/\Hid (n∉xs.take i)/\Hid ((pt=false/\ys=xs.take i/\ ∀x∈xs.take i,x<n)\/(pt=true/\ys=insl n (xs.take i)/\ ∃x∈xs.take i,n<x))/\Hid (IOw w.heap.size wr so M sc ys)/\Hid (Fr [] w wr)) (fun _ _ ii _=>N-(RowKit.intOf ii).toNat)
 case atStart=>exact⟨0,none,0,0,false,[],rfl,Nat.zero_le _,rfl,rfl,by omega,(show n∉xs.take 0 from by simp),Or.inl ⟨rfl,rfl,by simp⟩,IOw.nil _ _,Fr.refl _ _⟩
 case round =>
  obtain⟨i,so,M,sc,pt,ys,rfl,hiN,rfl,rfl,hMi,HNi,HYs,HO,HF⟩:=hrel
  by_cases hi:i<N
  ·have hil:i<xs.length:=by rw[<-HN.out];exact hi
   obtain⟨b,off,rfl,_,hc⟩:=(HX.out _ HF.out).lies (by omega)
   have hci:=hc i hil
   have HT:=zfh xs i hil
   have hmx:=zdn xs i hil
   have hup: ∀y∈xs.take i,y<xs.getD i 0:=fun y hy=>by
    obtain⟨j,hj,e⟩:=List.mem_iff_getElem.1 hy
    rw[List.getElem_take]at e
    have hj2:j<i:=by rw[List.length_take]at hj;omega
    have:=List.pairwise_iff_getElem.1 HR.out j i (by omega) hil hj2
    rw[e]at this
    simpa[List.getD,hil]using this
   obtain⟨x,hx⟩: ∃x,x=xs.getD i 0:=⟨_,rfl⟩
   rw[<-hx]at hci HT hmx hup
   have HCi:Hid (∀W,Fr [] w W->W.cell? ⟨b,off+i,none⟩=some (.int .i64 x)):=fun W hf=>by
    obtain⟨b',off',e',_,hc'⟩:=(HX.out W hf).lies (by omega)
    cases e'
    rw[hc' i hil,hx]
   have HO2:Hid (∀W,Fr [] wr W->IOw w.heap.size W so M sc ys):=fun W hf=>HO.out.keep hf
   have HB:Hid (∀W W',Fr [] wr W->Fr (Value.slice so M sc).ownBlock.toList W W'->Fr [] w W'):=fun W W' h1 h2=>HO.out.on (Nat.le_refl _) HF.out h1 h2
   have hsz:=HF.out.size
   have HT:Hid (xs.take (i+1)=xs.take i++[x]):=HT
   have HU:Hid (∀y∈xs.take i,y<x):=hup
   clear hx hc hup
   by_cases he:x=n
   ·have heq:(x==n)=true:=by rw[he];simp
    have HMn:Hid (n∈xs):=by show n∈xs;rw[<-he];exact hmx
    clear he hmx
    go_wp2
    go_ret
    exact⟨_,N,c,xs,rfl,HN.out,HX.out _ HF.out,HR.out,fun m=>⟨Or.inl,fun h=>h.elim id (fun e=>by rw[e];exact HMn.out)⟩,Or.inl ⟨rfl,rfl⟩,HF.out⟩
   ·have heq:(x==n)=false:=by simpa using he
    have HNi2:Hid (n∉xs.take (i+1)):=by
     show n∉_
     rw[HT.out,List.mem_append,not_or]
     exact⟨HNi.out,by simpa using fun e=>he e.symm⟩
    clear hmx
    cases pt with
    | true =>
     have hgt:n<x:=by
      rcases HYs.out with ⟨h,_⟩|⟨_,_,y,hy,h⟩
      ·cases h
      ·have:=HU.out y hy;omega
     have HYs2:Hid (ys++[x]=insl n (xs.take (i+1))/\ ∃y∈xs.take (i+1),n<y):=by
      rcases HYs.out with ⟨h,_⟩|⟨_,e,_⟩
      ·cases h
      ·rw[HT.out,e]
       exact⟨(zmw hgt).symm,x,by simp,hgt⟩
     clear he
     go_wp2_with (first
      | (
       at_builtin;refine zat w.heap.size _ rfl _ _ rfl so M sc _ rfl (HO2.out _ (Fr.alloc [] _ _)) _ _ x rfl ?hcell (by omega) ?hsize ?_
       case hcell=>exact zaw _ _ _
       case hsize=>simp;omega
       intro o' c' w3 hO3 hF3 _
       have HR3:Hid (_/\_):=⟨hO3,HB.out _ _ (Fr.alloc [] _ _) hF3⟩
       clear hO3 hF3
       go_frame)
      | fail)
     go_roundw
     case rel=>exact⟨i+1,o',M+1,c',true,ys++[x],by simp,by omega,rfl,rfl,by omega,HNi2.out,Or.inr ⟨rfl,HYs2.out.1,HYs2.out.2⟩,HR3.out.1,HR3.out.2⟩
     case measure=>simp[RowKit.intOf];omega
    | false =>
     have hMy:M=ys.length:=HO.out.len
     by_cases hlt:x<n
     ·have hlt': ¬(n<x):=by omega
      have hd:decide (n<x)=false:=by simpa using hlt'
      have HYs2:Hid (ys++[x]=xs.take (i+1)/\ ∀y∈xs.take (i+1),y<n):=by
       rcases HYs.out with ⟨_,e,h⟩|⟨h,_⟩
       ·rw[HT.out,e]
        refine⟨rfl,fun y hy=> ?_⟩
        rcases List.mem_append.1 hy with h1|h1
        ·exact h y h1
        ·simp at h1;rw[h1];exact hlt
       ·cases h
      clear he hMy
      go_wp2_with (first
       | (
        at_builtin;refine zat w.heap.size _ rfl _ _ rfl so M sc _ rfl (HO2.out _ (Fr.alloc [] _ _)) _ _ x rfl ?hcell (by omega) ?hsize ?_
        case hcell=>exact zaw _ _ _
        case hsize=>simp;omega
        intro o' c' w3 hO3 hF3 _
        have HR3:Hid (_/\_):=⟨hO3,HB.out _ _ (Fr.alloc [] _ _) hF3⟩
        clear hO3 hF3
        go_frame)
       | fail)
      go_roundw
      case rel=>exact⟨i+1,o',M+1,c',false,ys++[x],by simp,by omega,rfl,rfl,by omega,HNi2.out,Or.inl ⟨rfl,HYs2.out.1,HYs2.out.2⟩,HR3.out.1,HR3.out.2⟩
      case measure=>simp[RowKit.intOf];omega
     ·have hgt:n<x:=by omega
      have hd:decide (n<x)=true:=by simpa using hgt
      have hMi2:M<=i:=by
       rcases HYs.out with ⟨_,e,h⟩|⟨h,_⟩
       ·rw[hMy,e,List.length_take];omega
       ·cases h
      have HYs2:Hid (ys++[n]++[x]=insl n (xs.take (i+1))/\ ∃y∈xs.take (i+1),n<y):=by
       rcases HYs.out with ⟨_,e,h⟩|⟨h,_⟩
       ·rw[HT.out,e,zmw hgt,zkm h]
        exact⟨rfl,x,by simp,hgt⟩
       ·cases h
      clear he hMy hlt
      go_upto_region 11 with (first
       | (
        at_builtin;refine zat w.heap.size _ rfl _ _ rfl so M sc _ rfl (HO2.out _ (Fr.alloc [] _ _)) _ _ n rfl ?hcell (by omega) ?hsize ?_
        case hcell=>exact zaw _ _ _
        case hsize=>simp;omega
        intro o' c' w3 hO3 hF3 _
        have HR3:Hid (IOw w.heap.size w3 o' (M+1) c' (ys++[n])/\Fr [] w w3):=⟨hO3,HB.out _ _ (Fr.alloc [] _ _) hF3⟩
        clear hO3 hF3
        go_frame)
       | fail)
      have hci3:=HCi.out _ HR3.out.2
      have hsz3:=HR3.out.2.size
      have HO4:Hid (∀W,Fr [] w3 W->IOw w.heap.size W o' (M+1) c' (ys++[n])):=fun W hf=>HR3.out.1.keep hf
      have HB4:Hid (∀W W',Fr [] w3 W->Fr (Value.slice o' (M+1) c').ownBlock.toList W W'->Fr [] w W'):=fun W W' h1 h2=>HR3.out.1.on (Nat.le_refl _) HR3.out.2 h1 h2
      go_wp2_with (first
       | (
        at_builtin;refine zat w.heap.size _ rfl _ _ rfl o' (M+1) c' _ rfl (HO4.out _ (Fr.alloc [] _ _)) _ _ x rfl ?hcell (by omega) ?hsize ?_
        case hcell=>exact zaw _ _ _
        case hsize=>simp;omega
        intro o2 c2 w4 hO4 hF4 _
        have HR4:Hid (_/\_):=⟨hO4,HB4.out _ _ (Fr.alloc [] _ _) hF4⟩
        clear hO4 hF4
        go_frame)
       | fail)
      go_roundw
      case rel=>exact⟨i+1,o2,M+1+1,c2,true,ys++[n]++[x],by simp,by omega,rfl,rfl,by omega,HNi2.out,Or.inr ⟨rfl,HYs2.out.1,HYs2.out.2⟩,HR4.out.1,HR4.out.2⟩
      case measure=>simp[RowKit.intOf];omega
  ·obtain rfl:N=i:=by omega
   rw[List.take_of_length_le (by rw[<-HN.out];exact Nat.le_refl _)]at HNi HYs
   obtain⟨hI1,hI2⟩:=zxj HR.out HNi.out
   have HI:Hid (Ris (insl n xs)/\ ∀m,m∈insl n xs↔m∈xs\/m=n):=⟨hI1,hI2⟩
   clear hI1 hI2
   cases pt with
   | true =>
    have hye:ys=insl n xs:=by
     rcases HYs.out with ⟨h,_⟩|⟨_,e,_⟩
     ·cases h
     ·exact e
    subst hye
    go_wp2
    go_ret
    exact⟨so,M,sc,rfl,_,HO.out.len,HO.out.rd,HI.out.1,HI.out.2,Or.inr HO.out,HF.out⟩
   | false =>
    have hye:ys++[n]=insl n xs:=by
     rcases HYs.out with ⟨_,e,h⟩|⟨h,_⟩
     ·rw[e];exact (zkm h).symm
     ·cases h
    have HYe:Hid (ys++[n]=insl n xs):=hye
    have hMN:M<=N:=by
     rcases HYs.out with ⟨_,e,h⟩|⟨h,_⟩
     ·rw[HO.out.len,e,HN.out];exact Nat.le_refl _
     ·cases h
    have HO2:Hid (∀W,Fr [] wr W->IOw w.heap.size W so M sc ys):=fun W hf=>HO.out.keep hf
    have HB:Hid (∀W W',Fr [] wr W->Fr (Value.slice so M sc).ownBlock.toList W W'->Fr [] w W'):=fun W W' h1 h2=>HO.out.on (Nat.le_refl _) HF.out h1 h2
    have hsz:=HF.out.size
    clear hye
    go_wp2_with (first
     | (
      at_builtin;refine zat w.heap.size _ rfl _ _ rfl so M sc _ rfl (HO2.out _ (Fr.alloc [] _ _)) _ _ n rfl ?hcell (by omega) ?hsize ?_
      case hcell=>exact zaw _ _ _
      case hsize=>simp;omega
      intro o' c' w3 hO3 hF3 _
      have HR3:Hid (IOw w.heap.size w3 o' (M+1) c' (ys++[n])/\Fr [] w w3):=⟨hO3,HB.out _ _ (Fr.alloc [] _ _) hF3⟩
      clear hO3 hF3
      go_frame)
     | fail)
    go_ret
    obtain⟨h1,h2⟩:=HR3.out
    rw[HYe.out]at h1
    exact⟨o',M+1,c',rfl,_,h1.len,h1.rd,HI.out.1,HI.out.2,Or.inr h1,h2⟩
structure Ro where
 num:Int
 wo:Option Addr
 wn:Nat
 wc:Nat
 ws:List Wt
 ao:Option Addr
 an:Nat
 ac:Nat
 xs:List Int
 en:Bool
def Ro.zero:Ro:=⟨0,none,0,0,[],none,0,0,[],false⟩
def Ro.c (r:Ro):List Value:=[.int .i64 r.num,.slice r.wo r.wn r.wc,.slice r.ao r.an r.ac,.bool r.en]
def rosC (rs:List Ro):List Value:=rs.flatMap Ro.c
theorem zgl: ∀rs:List Ro,(rosC rs).length=rs.length*4
 | []=>rfl
 | r::t=>by
  show (r.c++rosC t).length=_
  rw[List.length_append,zgl t,List.length_cons]
  show 4+t.length*4=_
  omega
theorem zkn: ∀(rs:List Ro) (i j:Nat),i<rs.length->j<4->(rosC rs)[i*4+j]? = (rs.getD i Ro.zero).c[j]?
 | [],i,j,h,_=>by simp at h
 | r::t,0,j,h,hj=>by
  show (r.c++rosC t)[0*4+j]? = _
  rw[Nat.zero_mul,Nat.zero_add,List.getElem?_append_left (by show j<4;exact hj)]
  rfl
 | r::t,i+1,j,h,hj=>by
  show (r.c++rosC t)[(i+1)*4+j]? = _
  rw[List.getElem?_append_right (by show 4<=_;omega),show (i+1)*4+j-r.c.length=i*4+j from by show (i+1)*4+j-4=_;omega,zkn t i j (by simpa using h) hj]
  rfl
theorem zur (a b:List Ro):rosC (a++b)=rosC a++rosC b:=by simp[rosC]
theorem zbi {rs:List Ro} {i:Nat} (h:i<rs.length):rs.getD i Ro.zero∈rs:=by simp[List.getD,h]
theorem zcr {rs:List Ro} {i:Nat} (h:i<rs.length):rs.getD i Ro.zero=rs[i]:=by simp[List.getD,h]
theorem zko: ∀(rs:List Ro) (i j:Nat) (v:Value) (r':Ro),i<rs.length->j<4->(rs.getD i Ro.zero).c.set j v=r'.c->(rosC rs).set (i*4+j) v=rosC (rs.set i r')
 | [],i,j,v,r',h,_,_=>by simp at h
 | r::t,0,j,v,r',h,hj,e=>by
  show (r.c++rosC t).set (0*4+j) v=r'.c++rosC t
  rw[Nat.zero_mul,Nat.zero_add,List.set_append_left _ _ (by show j<4;exact hj)]
  rw[show r.c.set j v=r'.c from e]
 | r::t,i+1,j,v,r',h,hj,e=>by
  show (r.c++rosC t).set ((i+1)*4+j) v=r.c++rosC (t.set i r')
  rw[List.set_append_right _ _ (by show 4<=_;omega),show (i+1)*4+j-r.c.length=i*4+j from by show (i+1)*4+j-4=_;omega,zko t i j v r' (by simpa using h) hj e]
structure Re (w:World) (OB:List Nat) (r:Ro):Prop where
 wl:r.wn=r.ws.length
 wr:WRs w r.wo r.ws
 wb:0<r.ws.length-> ∀a,r.wo=some a->a.block∈OB
 ok:okT r.num r.ws
 al:r.an=r.xs.length
 ar:IRd w r.ao r.xs
 ab:0<r.xs.length-> ∀a,r.ao=some a->a.block∈OB
 af:r.an<=65536
theorem Re.keep {S OB:List Nat} {w w':World} {r:Ro} (h:Re w OB r) (hf:Fr S w w') (hS: ∀j∈OB,j∉S):Re w' OB r :=
 ⟨h.wl,h.wr.keepS hf (fun h0 a ha=>hS _ (h.wb h0 a ha)),h.wb,h.ok,h.al,h.ar.keepS hf (fun h0 a ha=>hS _ (h.ab h0 a ha)),h.ab,h.af⟩
theorem Re.more {OB OB':List Nat} {w:World} {r:Ro} (h:Re w OB r) (hs: ∀j∈OB,j∈OB'):Re w OB' r :=
 ⟨h.wl,h.wr,fun h0 a ha=>hs _ (h.wb h0 a ha),h.ok,h.al,h.ar,fun h0 a ha=>hs _ (h.ab h0 a ha),h.af⟩
structure Rt (w:World) (g:Nat) (OB:List Nat) (lo:Option Addr) (n c:Nat) (rs:List Ro):Prop where
 box:w.heap[g]? = some (.cells #[.slice lo n c] 127 (0,0))
 gno:g∉OB
 row:w.ownsRow 0 249 4 (.slice lo n c) n (rosC rs)
 len:n=rs.length
 rno: ∀k,(Value.slice lo n c).ownBlock=some k->k∉OB
 each: ∀r∈rs,Re w OB r
 mine: ∀j∈OB,j<w.heap.size
 few:n<=65536
def rall (g:Nat) (lo:Option Addr) (OB:List Nat):List Nat:=g::((Value.slice lo 0 0).ownBlock.toList++OB)
theorem zeh (lo:Option Addr) (a b c d:Nat):(Value.slice lo a b).ownBlock=(Value.slice lo c d).ownBlock:=by cases lo<;>rfl
section
variable {w w':World} {g n c:Nat} {OB:List Nat} {lo:Option Addr} {rs:List Ro}
theorem Rt.keep {S:List Nat} (h:Rt w g OB lo n c rs) (hf:Fr S w w') (hS: ∀j∈rall g lo OB,j∉S):Rt w' g OB lo n c rs :=
 ⟨hf.keep h.box (hS _ (by simp[rall])),h.gno,zfe h.row hf (fun k hk=>hS _ (by rw[zeh lo n c 0 0]at hk;simp[rall,hk])),h.len,h.rno,fun r hr=>(h.each r hr).keep hf (fun j hj=>hS _ (by simp[rall,hj])),fun j hj=>Nat.lt_of_lt_of_le (h.mine j hj) hf.size,h.few⟩
theorem Rt.quiet (h:Rt w g OB lo n c rs) (hf:Fr [] w w'):Rt w' g OB lo n c rs:=h.keep hf (by simp)
theorem Rt.c0 (h:Rt w g OB lo n c rs):w.cell? ⟨g,0,none⟩=some (.slice lo n c):=by rw[cell_of_row _ _ _ _ _ _ h.box];rfl
theorem Rt.lies (h:Rt w g OB lo n c rs) (h0:0<n): ∃b,lo=some ⟨b,0,none⟩/\b≠g/\(∃cur,w.heap[b]? = some (.cells cur 249 (0,0))/\cur.size=c*4):=by
 rcases h.row.2 with ⟨_,h1⟩|⟨b,cap,cur,hv,_,hg,_,_,hs,_⟩
 ·omega
 ·cases hv
  refine⟨b,rfl,fun e=> ?_,cur,hg,hs⟩
  subst e
  have:=h.box
  rw[hg]at this
  simp at this
theorem Rt.cell (h:Rt w g OB lo n c rs) {b:Nat} (hb:lo=some ⟨b,0,none⟩) (i j:Nat) (hi:i<n) (hj:j<4):w.cell? ⟨b,i*4+j,none⟩=(rs.getD i Ro.zero).c[j]? :=by
 have hi':i<rs.length:=by rw[<-h.len];exact hi
 subst hb
 have hq:(rs.getD i Ro.zero).c[j]? = some ((rs.getD i Ro.zero).c[j]'(by show j<4;exact hj)):=List.getElem?_eq_getElem (by show j<4;exact hj)
 have:=h.row.cells (g:=b) rfl (i*4+j) _ ((zkn rs i j hi' hj).trans hq)
 rw[Addr.add_lit,Nat.zero_add]at this
 rw[this,hq]
theorem Rt.cells (h:Rt w g OB lo n c rs) {b:Nat} (hb:lo=some ⟨b,0,none⟩) (i:Nat) (hi:i<n) :
  w.cell? ⟨b,i*4,none⟩=some (.int .i64 (rs.getD i Ro.zero).num)/\w.cell? ⟨b,i*4+1,none⟩=some (.slice (rs.getD i Ro.zero).wo (rs.getD i Ro.zero).wn (rs.getD i Ro.zero).wc)/\w.cell? ⟨b,i*4+2,none⟩=some (.slice (rs.getD i Ro.zero).ao (rs.getD i Ro.zero).an (rs.getD i Ro.zero).ac)/\w.cell? ⟨b,i*4+3,none⟩=some (.bool (rs.getD i Ro.zero).en) :=
 ⟨h.cell hb i 0 hi (by omega),h.cell hb i 1 hi (by omega),h.cell hb i 2 hi (by omega),h.cell hb i 3 hi (by omega)⟩
theorem Rt.mineA (h:Rt w g OB lo n c rs): ∀j∈rall g lo OB,j<w.heap.size:=by
 intro j hj
 simp only[rall,List.mem_cons,List.mem_append,Option.mem_toList]at hj
 rcases hj with rfl|hj|hj
 ·exact lt_of_block h.box
 ·rw[zeh lo 0 0 n c]at hj;exact (h.row.lt j hj).2
 ·exact h.mine j hj
theorem zfc {w:World} {b j:Nat} {cs:Array Value} {t:TypeId} (x:Value) (h:w.heap[b]? = some (.cells cs t (0,0))):(w.setCell ⟨b,j,none⟩ x).heap[b]? = some (.cells (cs.setIfInBounds j x) t (0,0)):=by
 have hlt:=lt_of_block h
 have h':w.heap[b]= .cells cs t (0,0):=by simpa[Array.getElem?_eq_getElem hlt]using h
 show (w.heap.modify b _)[b]? = _
 rw[Array.getElem?_eq_getElem (by simpa using hlt),Array.getElem_modify_self,h']
 rfl
theorem Rt.set (h:Rt w g OB lo n c rs) {b:Nat} (hb:lo=some ⟨b,0,none⟩) {i j:Nat} {v:Value} {r':Ro} (hi:i<n) (hj:j<4) (hr:(rs.getD i Ro.zero).c.set j v=r'.c) {OB':List Nat} (hs: ∀k∈OB,k∈OB') (hn: ∀k∈OB',k∈OB\/(k≠g/\k≠b/\k<w.heap.size)) (he:Re w OB' r') :
  Rt (w.setCell ⟨b,i*4+j,none⟩ v) g OB' lo n c (rs.set i r'):=by
 subst hb
 have hF:Fr [b] w (w.setCell ⟨b,i*4+j,none⟩ v):=Fr.set _ _ _ (by simp)
 have hbO:b∉OB:=h.rno b rfl
 have hbO': ∀k∈OB',k∉[b]:=fun k hk=>by
  rcases hn k hk with e|e
  ·simp;rintro rfl;exact hbO e
  ·simpa using e.2.1
 obtain⟨b',eb,hne,cur0,hcur0,_⟩:=h.lies (by omega)
 cases eb
 refine⟨hF.keep h.box (by simpa using hne.symm),fun hg=> ?_,⟨?_,?_⟩,by simpa using h.len,fun k hk=> ?_,fun r hr2=> ?_,fun k hk=> ?_,h.few⟩
 ·rcases hn g hg with e|e
  ·exact h.gno e
  ·exact e.1 rfl
 ·rw[zgl,List.length_set,<-h.len]
 ·rcases h.row.2 with ⟨hh,_⟩|⟨b',cap,cur,hv,h0,hg,h1,h2,h3,ht⟩
  ·cases hh
  ·cases hv
   refine .inr ⟨b,c,cur.setIfInBounds (i*4+j) v,rfl,h0,zfc v hg,h1,h2,by simpa using h3,?_⟩
   rw[Array.toList_setIfInBounds,List.take_set,ht]
   exact zko rs i j v r' (by rw[<-h.len];exact hi) hj hr
 ·simp[Value.ownBlock]at hk
  subst hk
  intro hm
  exact hbO' _ hm (by simp)
 ·rcases List.mem_or_eq_of_mem_set hr2 with e|e
  ·exact ((h.each r e).more hs).keep hF hbO'
  ·subst e;exact he.keep hF hbO'
 ·rw[show (w.setCell ⟨b,i*4+j,none⟩ v).heap.size=w.heap.size from by simp[World.setCell]]
  rcases hn k hk with e|e
  ·exact h.mine k e
  ·exact e.2.2
end
structure Rel (rs:List Ro) (L:Lg) (en:Int->Prop):Prop where
 log:rs.map (fun r=>(r.num,zah r.ws))=L
 ris:RisL L
 enb: ∀r∈rs,(r.en=true↔en r.num)
 wt: ∀r∈rs,WtT L (Op11 L en) r.num r.xs
 endx: ∀r∈rs,r.en=true->r.xs=[]
 ended: ∀n,en n-> ∃p∈L,p.1=n
section
variable {rs:List Ro} {L:Lg} {en:Int->Prop}
theorem Rel.len (h:Rel rs L en):L.length=rs.length:=by rw[<-h.log];simp
theorem Rel.mem (h:Rel rs L en) {r:Ro} (hr:r∈rs):(r.num,zah r.ws)∈L:=by rw[<-h.log];exact List.mem_map.2 ⟨r,hr,rfl⟩
theorem Rel.of (h:Rel rs L en) {p:Int×List ByteArray} (hp:p∈L): ∃r∈rs,p=(r.num,zah r.ws):=by
 rw[<-h.log]at hp
 obtain⟨r,hr,e⟩:=List.mem_map.1 hp
 exact⟨r,hr,e.symm⟩
theorem Rel.lt (h:Rel rs L en) {i j:Nat} (hi:i<j) (hj:j<rs.length):(rs.getD i Ro.zero).num<(rs.getD j Ro.zero).num:=by
 have hr:=h.ris.ris
 rw[<-h.log,List.map_map]at hr
 have:=List.pairwise_iff_getElem.1 hr i j (by simp;omega) (by simpa using hj) hi
 simp only[List.getElem_map,Function.comp]at this
 rw[zcr hj,zcr (by omega)]
 exact this
theorem Rel.op_iff (h:Rel rs L en) (m:Int):Op11 L en m↔ ∃k,k<rs.length/\(rs.getD k Ro.zero).num=m/\(rs.getD k Ro.zero).en=false:=by
 constructor
 ·rintro⟨⟨p,hp,rfl⟩,h2⟩
  obtain⟨r,hr,rfl⟩:=h.of hp
  obtain⟨k,hk,e⟩:=List.getElem_of_mem hr
  refine⟨k,hk,by rw[zcr hk,e],?_⟩
  rw[zcr hk,e]
  cases he:r.en with
  | false=>rfl
  | true=>exact absurd ((h.enb r hr).1 he) h2
 ·rintro⟨k,hk,rfl,h2⟩
  have hm:=zbi hk
  exact⟨⟨_,h.mem hm,rfl⟩,fun he=>by rw[(h.enb _ hm).2 he]at h2;cases h2⟩
theorem Rel.last (h:Rel rs L en) (key:ByteArray) {k:Nat} (hk:k<rs.length) (h1:key∈zah (rs.getD k Ro.zero).ws) (h2: ∀j,k<j->j<rs.length->key∉zah (rs.getD j Ro.zero).ws):lst L key=(rs.getD k Ro.zero).num:=by
 have hm:=h.mem (zbi hk)
 have hge:=zqf L key h.ris _ hm h1
 have hpos:=h.ris.pos _ hm
 simp only at hge hpos
 obtain⟨ks,h3,h4⟩:=zcs L key h.ris (by omega)
 obtain⟨r,hr,e⟩:=h.of h3
 obtain⟨e1,rfl⟩:=Prod.mk.inj e
 obtain⟨j,hj,e2⟩:=List.getElem_of_mem hr
 have e3:rs.getD j Ro.zero=r:=by rw[zcr hj,e2]
 by_cases hjk:k<j
 ·exact absurd (by rw[e3];exact h4) (h2 j hjk hj)
 ·by_cases hjk2:j=k
  ·subst hjk2;rw[e1,e3]
  ·have:=h.lt (i:=j) (j:=k) (by omega) hk
   rw[e3]at this
   omega
theorem Rel.last0 (h:Rel rs L en) (key:ByteArray) (h2: ∀j,j<rs.length->key∉zah (rs.getD j Ro.zero).ws):lst L key=0:=by
 refine zta L key h.ris (fun q hq hk=> ?_)
 obtain⟨r,hr,rfl⟩:=h.of hq
 obtain⟨j,hj,e2⟩:=List.getElem_of_mem hr
 exact h2 j hj (by rw[zcr hj,e2];exact hk)
theorem Rel.done (h:Rel rs L en) {m:Int} {k:Nat} (hk:k<rs.length) (hm:(rs.getD k Ro.zero).num=m) (hx:(rs.getD k Ro.zero).xs=[]) {rs':List Ro} (hl:rs'.length=rs.length) (hp: ∀i,i<rs.length->(rs'.getD i Ro.zero).num=(rs.getD i Ro.zero).num/\(rs'.getD i Ro.zero).ws=(rs.getD i Ro.zero).ws/\((rs'.getD i Ro.zero).en=true↔(rs.getD i Ro.zero).en=true\/i=k)/\(rs'.getD i Ro.zero).xs=(rs.getD i Ro.zero).xs.filter fun x=>x !=m):Rel rs' L (fun x=>en x\/x=m):=by
 have hat: ∀r∈rs',∃i,i<rs.length/\r=rs'.getD i Ro.zero:=fun r hr=>by
  obtain⟨i,hi,e⟩:=List.getElem_of_mem hr
  exact⟨i,by rw[<-hl];exact hi,by rw[zcr hi,e]⟩
 have hop: ∀y,Op11 L (fun x=>en x\/x=m) y↔Op11 L en y/\y≠m:=fun y=>by
  constructor
  ·rintro⟨h1,h2⟩;exact⟨⟨h1,fun e=>h2 (Or.inl e)⟩,fun e=>h2 (Or.inr e)⟩
  ·rintro⟨⟨h1,h2⟩,h3⟩;exact⟨h1,fun e=>e.elim h2 h3⟩
 have hinj: ∀i,i<rs.length->((rs.getD i Ro.zero).num=m↔i=k):=fun i hi=>by
  constructor
  ·intro e
   apply Classical.byContradiction
   intro hne
   rcases Nat.lt_or_gt_of_ne hne with h1|h1
   ·have:=h.lt h1 hk;omega
   ·have:=h.lt h1 hi;omega
  ·rintro rfl;exact hm
 refine⟨?_,h.ris,fun r hr=> ?_,fun r hr=> ?_,fun r hr he=> ?_,fun n hn=> ?_⟩
 ·rw[<-h.log]
  apply List.ext_getElem?
  intro i
  by_cases hi:i<rs.length
  ·have:=hp i hi
   rw[List.getElem?_map,List.getElem?_map,List.getElem?_eq_getElem (by rw[hl];exact hi),List.getElem?_eq_getElem hi]
   rw[zcr (by rw[hl];exact hi),zcr hi]at this
   simp only[Option.map_some,this.1,this.2.1]
  ·rw[List.getElem?_eq_none (by simp[hl];omega),List.getElem?_eq_none (by simp;omega)]
 ·obtain⟨i,hi,rfl⟩:=hat r hr
  obtain⟨h1,h2,h3,h4⟩:=hp i hi
  rw[h3,h1,h.enb _ (zbi hi),hinj i hi]
 ·obtain⟨i,hi,rfl⟩:=hat r hr
  obtain⟨h1,h2,h3,h4⟩:=hp i hi
  rw[h1,h4]
  obtain⟨k1,k2⟩:=h.wt _ (zbi hi)
  refine⟨k1.filter _,fun y=> ?_⟩
  rw[List.mem_filter,k2 y,hop]
  simp only[bne_iff_ne,ne_eq]
  constructor
  ·rintro⟨⟨h5,h6⟩,h7⟩;exact⟨⟨h5,h7⟩,h6⟩
  ·rintro⟨⟨h5,h7⟩,h6⟩;exact⟨⟨h5,h6⟩,h7⟩
 ·obtain⟨i,hi,rfl⟩:=hat r hr
  obtain⟨h1,h2,h3,h4⟩:=hp i hi
  rw[h4]
  rcases h3.1 he with e|rfl
  ·rw[h.endx _ (zbi hi) e];rfl
  ·rw[hx];rfl
 ·rcases hn with e|rfl
  ·exact h.ended n e
  ·exact⟨_,h.mem (zbi hk),hm⟩
def freed (m:Int) (rs:List Ro):List Int:=(rs.filter fun r=>decide (r.xs≠[]/\(r.xs.filter fun x=>x !=m)=[])).map Ro.num
theorem Rel.nums (h:Rel rs L en) (p:Ro->Bool):Ris ((rs.filter p).map Ro.num):=by
 have hr:=h.ris.ris
 rw[<-h.log,List.map_map]at hr
 exact List.Pairwise.sublist (List.Sublist.map _ List.filter_sublist) hr
theorem Rel.freed (h:Rel rs L en) {m:Int} (hm:Op11 L en m):DoT L (Op11 L en) m (freed m rs):=by
 refine⟨h.nums _,fun o=> ?_⟩
 unfold Go.Proofs.YtaaghcimfcjehaaGreatDoor.freed
 rw[List.mem_map]
 constructor
 ·rintro⟨r,hr,rfl⟩
  obtain⟨h1,h2⟩:=List.mem_filter.1 hr
  simp only[decide_eq_true_eq]at h2
  obtain⟨h2,h3⟩:=h2
  obtain⟨k1,k2⟩:=h.wt r h1
  have hall: ∀y∈r.xs,y=m:=fun y hy=>by
   apply Classical.byContradiction
   intro hne
   have:y∈r.xs.filter fun x=>x !=m:=List.mem_filter.2 ⟨hy,by simpa using hne⟩
   rw[h3]at this
   simp at this
  obtain⟨y,hy⟩:=List.exists_mem_of_ne_nil _ h2
  obtain rfl:=hall y hy
  refine⟨⟨⟨_,h.mem h1,rfl⟩,fun he=> ?_⟩,((k2 y).1 hy).2,fun z hz hne hd=>hne (hall z ((k2 z).2 ⟨hz,hd⟩))⟩
  exact h2 (h.endx r h1 ((h.enb r h1).2 he))
 ·rintro⟨⟨⟨p,hp,rfl⟩,_⟩,h2,h3⟩
  obtain⟨r,hr,rfl⟩:=h.of hp
  obtain⟨k1,k2⟩:=h.wt r hr
  refine⟨r,List.mem_filter.2 ⟨hr,?_⟩,rfl⟩
  simp only[decide_eq_true_eq]
  have hmx:m∈r.xs:=(k2 m).2 ⟨hm,h2⟩
  refine⟨fun e=>by rw[e]at hmx;simp at hmx,List.filter_eq_nil_iff.2 (fun y hy=> ?_)⟩
  have hy2:=(k2 y).1 hy
  by_cases e:y=m
  ·simp[e]
  ·exact absurd hy2.2 (h3 y hy2.1 e)
theorem Rel.add (h:Rel rs L en) {r:Ro} (hnew: ∀p∈L,p.1<r.num) (h1:1<=r.num) (hx:AdT L en (zah r.ws) r.xs) (he:r.en=false):Rel (rs++[r]) (L++[(r.num,zah r.ws)]) en:=by
 have hr:RisL (L++[(r.num,zah r.ws)]):=h.ris.snoc hnew h1
 have hop1: ∀m,Op11 L en m->m<r.num:=fun m hm=>by obtain⟨⟨p,hp,rfl⟩,_⟩:=hm;exact hnew p hp
 have hop0: ∀m,Op11 L en m->m≠0:=fun m hm=>by obtain⟨⟨p,hp,rfl⟩,_⟩:=hm;have:=h.ris.pos p hp;omega
 have hen: ¬en r.num:=fun e=>by obtain⟨p,hp,e2⟩:=h.ended _ e;have:=hnew p hp;omega
 have hop: ∀m,Op11 (L++[(r.num,zah r.ws)]) en m↔Op11 L en m\/m=r.num:=fun m=>by
  constructor
  ·rintro⟨⟨p,hp,rfl⟩,h2⟩
   rcases List.mem_append.1 hp with e|e
   ·exact Or.inl ⟨⟨p,e,rfl⟩,h2⟩
   ·simp at e;subst e;exact Or.inr rfl
  ·rintro (⟨⟨p,hp,rfl⟩,h2⟩|rfl)
   ·exact⟨⟨p,by simp[hp],rfl⟩,h2⟩
   ·exact⟨⟨(r.num,zah r.ws),by simp,rfl⟩,hen⟩
 refine⟨by rw[List.map_append,h.log];rfl,hr,fun q hq=> ?_,fun q hq=> ?_,fun q hq hqe=> ?_,fun n hn=> ?_⟩
 ·rcases List.mem_append.1 hq with e|e
  ·exact h.enb q e
  ·simp at e;subst e;rw[he];simp[hen]
 ·rcases List.mem_append.1 hq with e|e
  ·obtain⟨k1,k2⟩:=h.wt q e
   refine⟨k1,fun m=> ?_⟩
   have hqn:=hnew _ (h.mem e)
   simp only at hqn
   rw[k2 m,hop,zbp]
   constructor
   ·rintro⟨h3,h4⟩;exact⟨Or.inl h3,Or.inl h4⟩
   ·rintro⟨h3,h4|⟨h4,_⟩⟩
    ·rcases h3 with h3|rfl
     ·exact⟨h3,h4⟩
     ·have:=(h4.lt h.ris).2.1;omega
    ·simp only at h4;omega
  ·simp at e
   subst e
   refine⟨hx.1,fun m=> ?_⟩
   rw[hx.2 m,hop,zbp]
   constructor
   ·rintro⟨h3,h4⟩;exact⟨Or.inl h3,Or.inr ⟨rfl,hop0 m h3,h4⟩⟩
   ·rintro⟨h3,h4|⟨_,h4,h5⟩⟩
    ·obtain⟨A,ks,C,e2,_⟩:=h4
     have:=hnew (q.num,ks) (by rw[e2];simp)
     simp only at this
     omega
    ·rcases h3 with h3|rfl
     ·exact⟨h3,h5⟩
     ·obtain⟨key,_,e3⟩:=h5
      obtain⟨js,h6,_⟩:=zcs L key h.ris (by omega)
      have:=hnew _ h6
      simp only at this
      omega
 ·rcases List.mem_append.1 hq with e|e
  ·exact h.endx q e hqe
  ·simp at e;subst e;rw[he]at hqe;cases hqe
 ·obtain⟨p,hp,e⟩:=h.ended n hn
  exact⟨p,by simp[hp],e⟩
theorem Rel.zero:Rel [] [] (fun _=>False):=⟨rfl,RisL.nil,by simp,by simp,by simp,fun n h=>h.elim⟩
end
theorem zus (w:World):Calls Tryz.prog 31 #[] w fun e w'=> ∃g,e= .returned (.pointer (some ⟨g,0,none⟩))/\w.heap.size<=g/\Rt w' g [] none 0 0 []/\Fr [] w w':=by
 go_enter Tryz.func31,Tryz.ntmps31
 go_wp2
 go_ret
 refine⟨w.heap.size,rfl,Nat.le_refl _,⟨heap_alloc_new w _,by simp,World.ownsRow_nil _ _ _ _,rfl,fun k hk=>by simp[Value.ownBlock]at hk,by simp,by simp,by omega⟩,Fr.alloc _ _ _⟩
theorem zlz {a b:ByteArray} (h:a.data.toList=b.data.toList):a=b:=by
 cases a
 cases b
 simp at h
 simp[h]
theorem zut (a b:ByteArray):a.toList=b.toList↔a=b:=by
 rw[ByteArray.toList_eq,ByteArray.toList_eq]
 constructor
 ·intro h
  exact zlz h
 ·rintro rfl
  rfl
section
variable {g n c:Nat} {OB:List Nat} {lo:Option Addr} {rs:List Ro}
def isAt (rs:List Ro) (m:Int) (k:Nat):Prop:=(rs.getD k Ro.zero).num=m/\(rs.getD k Ro.zero).en=false
theorem zeu (m:Int) (w:World) (h:Rt w g OB lo n c rs) :
  Calls Tryz.prog 160 #[.pointer (some ⟨g,0,none⟩),.int .i64 m] w fun e w'=>((∃k:Nat,e= .returned (.int .i64 (k:Int))/\k<n/\isAt rs m k)\/(e= .returned (.int .i64 (-1))/\ ∀k,k<n-> ¬isAt rs m k))/\Fr [] w w':=by
 have HR:Hid (∀W,Fr [] w W->Rt W g OB lo n c rs):=fun W hf=>h.quiet hf
 have hn:=h.few
 clear h
 go_enter Tryz.func160,Tryz.ntmps160
 go_wp2_with fail
 go_loopw [5] (fun ii wr=> ∃i:Nat,ii= .int .i64 i/\i<=n/\Hid (∀k,k<i-> ¬isAt rs m k)/\Hid (Fr [] w wr)) (fun ii _=>n-(RowKit.intOf ii).toNat)
 case atStart=>exact⟨0,rfl,Nat.zero_le _,(fun k hk=>absurd hk (Nat.not_lt_zero _): ∀k,k<0-> ¬isAt rs m k),Fr.refl _ _⟩
 case round =>
  obtain⟨i,rfl,hi1,HI,HF⟩:=hrel
  have hR:=HR.out _ HF.out
  have c0:=hR.c0
  by_cases hi:i<n
  ·obtain⟨b,rfl,_,_⟩:=hR.lies (by omega)
   obtain⟨d0,d1,d2,d3⟩:=hR.cells rfl i hi
   have HA:Hid (isAt rs m i↔(rs.getD i Ro.zero).num=m/\(rs.getD i Ro.zero).en=false):=Iff.rfl
   obtain⟨x,hx⟩: ∃x,x=(rs.getD i Ro.zero).num:=⟨_,rfl⟩
   obtain⟨ee,hee⟩: ∃ee,ee=(rs.getD i Ro.zero).en:=⟨_,rfl⟩
   rw[<-hx]at d0 HA
   rw[<-hee]at d3 HA
   clear hx hee hR d1 d2
   have HI2: ¬(x=m/\ee=false)->Hid (∀k,k<i+1-> ¬isAt rs m k):=fun hne k hk hat=>by
    by_cases e:k=i
    ·subst e;exact hne (HA.out.1 hat)
    ·exact HI.out k (by omega) hat
   by_cases he:x=m
   ·have hxe:(x==m)=true:=by simpa using he
    cases ee with
    | false =>
     have HAt:Hid (isAt rs m i):=HA.out.2 ⟨he,rfl⟩
     clear HI2 he
     go_wp2
     go_ret
     exact⟨Or.inl ⟨i,rfl,hi,HAt.out⟩,HF.out⟩
    | true =>
     have HI3:=HI2 (fun hc=>by cases hc.2)
     clear HI2 he
     go_wp2
     go_roundw
     case rel=>exact⟨i+1,by simp,by omega,HI3,HF⟩
     case measure=>simp[RowKit.intOf];omega
   ·have hxe:(x==m)=false:=by simpa using he
    have HI3:=HI2 (fun hc=>he hc.1)
    clear HI2 he
    go_wp2
    go_roundw
    case rel=>exact⟨i+1,by simp,by omega,HI3,HF⟩
    case measure=>simp[RowKit.intOf];omega
  ·clear hR
   go_wp2
   go_ret
   exact⟨Or.inr ⟨rfl,fun k hk=>HI.out k (by omega)⟩,HF.out⟩
theorem keysW_mem {ws:List Wt} {key:ByteArray}:key∈zah ws↔ ∃j,j<ws.length/\(ws.getD j Wt.zero).key=key:=by
 unfold zah
 rw[List.mem_map]
 constructor
 ·rintro⟨x,hx,rfl⟩
  obtain⟨j,hj,e⟩:=List.getElem_of_mem hx
  exact⟨j,hj,by simp[List.getD,hj,e]⟩
 ·rintro⟨j,hj,rfl⟩
  exact⟨ws[j],List.getElem_mem _,by simp[List.getD,hj]⟩
theorem zrx (key:ByteArray) (w:World) (h:Rt w g OB lo n c rs) (hk:key.size<=140737488355328) :
  Calls Tryz.prog 157 #[.pointer (some ⟨g,0,none⟩),.string key] w fun e w'=>((∃k:Nat,e= .returned (.int .i64 (k:Int))/\k<n/\key∈zah (rs.getD k Ro.zero).ws/\ ∀j,k<j->j<n->key∉zah (rs.getD j Ro.zero).ws)\/(e= .returned (.int .i64 (-1))/\ ∀k,k<n->key∉zah (rs.getD k Ro.zero).ws))/\Fr [] w w':=by
 have HR:Hid (∀W,Fr [] w W->Rt W g OB lo n c rs):=fun W hf=>h.quiet hf
 have HL:Hid (n=rs.length):=h.len
 have hn:=h.few
 have c0:=h.c0
 clear h
 go_enter Tryz.func157,Tryz.ntmps157
 go_wp2_with fail
 clear c0
 go_loopg [5] n (fun gk ii wr=> ∃i:Nat,gk=i/\ii= .int .i64 ((i:Int)-1)/\i<=n/\Hid (∀j,i<=j->j<n->key∉zah (rs.getD j Ro.zero).ws)/\Hid (Fr [] w wr))
 case atStart=>exact⟨n,rfl,rfl,Nat.le_refl _,(fun j h1 h2=>by omega: ∀j,n<=j->j<n->key∉zah (rs.getD j Ro.zero).ws),Fr.refl _ _⟩
 case round =>
  obtain⟨i,hgk,rfl,hi1,HI,HF⟩:=hrel
  have HGk:Hid (gk=i):=hgk
  clear hgk
  cases i with
  | zero =>
   have hz: ¬(0:Int)<=((0:Nat):Int)-1:=by omega
   go_wp2
   go_ret
   exact⟨Or.inr ⟨rfl,fun k hk=>HI.out k (Nat.zero_le _) hk⟩,HF.out⟩
  | succ i =>
   have hiv:((i+1:Nat):Int)-1=(i:Int):=by omega
   rw[hiv]
   have hR:=HR.out _ HF.out
   obtain⟨b,rfl,_,_⟩:=hR.lies (by omega)
   have hil:i<rs.length:=by rw[<-HL.out];omega
   have hE:=hR.each _ (zbi hil)
   have hwl:=hE.wl
   have hwok:=hE.ok.2.2.1
   have HE:Hid (∀W,Fr [] w W->W.cell? ⟨g,0,none⟩=some (.slice (some ⟨b,0,none⟩) n c)/\W.cell? ⟨b,i*4+1,none⟩=some (.slice (rs.getD i Ro.zero).wo (rs.getD i Ro.zero).wn (rs.getD i Ro.zero).wc)/\WRs W (rs.getD i Ro.zero).wo (rs.getD i Ro.zero).ws):=fun W hf=>by
    have h2:=HR.out _ hf
    exact⟨h2.c0,(h2.cells rfl i (by omega)).2.1,(h2.each _ (zbi hil)).wr⟩
   obtain⟨r,hr⟩: ∃r,r=rs.getD i Ro.zero:=⟨_,rfl⟩
   have HRr:Hid (r=rs.getD i Ro.zero):=hr
   rw[<-hr]at hwl hwok HE
   clear hr hE hR
   obtain⟨num,wo,wn,wc,ws,ao,an,ac,xs,en⟩:=r
   simp only at hwl hwok HE
   have HWl:Hid (wn=ws.length):=hwl
   have hwn:wn<=32:=by omega
   have hi0:(0:Int)<=(i:Int):=by omega
   have hdd:decide ((0:Int)<=(i:Int))=true:=by simp
   clear hwl hwok
   obtain⟨wo1,hwo1⟩: ∃wo1,wo1=wr:=⟨_,rfl⟩
   rw[<-hwo1]at HF ⊢
   clear hwo1
   go_wp2_with fail
   clear hdd
   go_loopw [6] (fun jj wr=> ∃j:Nat,jj= .int .i64 j/\j<=wn/\Hid (∀k,k<j->(ws.getD k Wt.zero).key≠key)/\Hid (Fr [] w wr)) (fun jj _=>wn-(RowKit.intOf jj).toNat)
   case atStart=>exact⟨0,rfl,Nat.zero_le _,(fun k hk=>absurd hk (Nat.not_lt_zero _): ∀k,k<0->(ws.getD k Wt.zero).key≠key),HF⟩
   case round =>
    clear HF
    obtain⟨j,rfl,hj1,HJ,HF⟩:=hrel
    obtain⟨d0,d1,hw⟩:=HE.out _ HF.out
    by_cases hj:j<wn
    ·have hjl:j<ws.length:=by rw[<-HWl.out];exact hj
     obtain⟨wb,wof,rfl,_,hwc⟩:=hw.lies (by omega)
     have hk0:=(hwc j hjl).1
     have hks:=(hw.each _ (by simp[List.getD,hjl]:ws.getD j Wt.zero∈ws)).1
     obtain⟨kk,hkk⟩: ∃kk,kk=(ws.getD j Wt.zero).key:=⟨_,rfl⟩
     rw[<-hkk]at hk0 hks
     clear hwc hw
     by_cases he:kk=key
     ·have hke:(kk.toList==key.toList)=true:=by rw[he];simp
      have HM:Hid (key∈zah (rs.getD i Ro.zero).ws):=by
       rw[Hid,<-HRr.out]
       exact keysW_mem.2 ⟨j,hjl,by rw[<-hkk];exact he⟩
      clear hkk he
      go_wp2
      go_ret
      exact⟨Or.inl ⟨i,rfl,by omega,HM.out,fun q h1 h2=>HI.out q (by omega) h2⟩,HF.out⟩
     ·have hke:(kk.toList==key.toList)=false:=by rw[beq_eq_false_iff_ne];exact fun h=>he ((zut _ _).1 h)
      have HJ2:Hid (∀k,k<j+1->(ws.getD k Wt.zero).key≠key):=fun k hk=>by
       by_cases e:k=j
       ·subst e;rw[<-hkk];exact he
       ·exact HJ.out k (by omega)
      clear hkk he
      go_wp2
      go_roundw
      case rel=>exact⟨j+1,by simp,by omega,HJ2,HF⟩
      case measure=>simp[RowKit.intOf];omega
    ·have HI2:Hid (∀q,i<=q->q<n->key∉zah (rs.getD q Ro.zero).ws):=fun q h1 h2 hm=>by
      by_cases e:q=i
      ·subst e
       rw[<-HRr.out]at hm
       obtain⟨k,hk,e2⟩:=keysW_mem.1 hm
       have hk':k<ws.length:=hk
       have hwl:=HWl.out
       exact HJ.out k (by omega) e2
      ·exact HI.out q (by omega) h2 hm
     clear hw
     go_wp2_with fail
     go_roundg i
     case measure=>have:=HGk.out;omega
     case rel=>exact⟨i,rfl,rfl,by omega,HI2,HF⟩
end
end Go.Proofs.YtaaghcimfcjehaaGreatDoor
