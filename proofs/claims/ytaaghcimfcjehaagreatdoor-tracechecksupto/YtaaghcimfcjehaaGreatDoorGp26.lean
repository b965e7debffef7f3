/- Contracts and plain lemmas of this claim. -/
import Derived.Test.YtaaghcimfcjehaaGreatDoorGp21
import Derived.Test.YtaaghcimfcjehaaGreatDoorGp25
import Derived.Test.YtaaghcimfcjehaaGreatDoorGp12
import Derived.Test.YtaaghcimfcjehaaGreatDoorGp3
import Derived.Test.YtaaghcimfcjehaaGreatDoorGp10
import Derived.Test.YtaaghcimfcjehaaGreatDoorGp11
import Derived.Test.YtaaghcimfcjehaaGreatDoorGp13
set_option linter.unusedSimpArgs false
set_option linter.unusedVariables false
namespace Go.Proofs.YtaaghcimfcjehaaGreatDoor
open Go.ChangeShapes Go.WideShapes Go.ChangeAt Go.RowKit Go.Lib Go.Maps
def Td (w:World) (g:Nat) (RA:List Nat) (L:Lg) (en:Int->Prop):Prop:= ∃lo m c OB rs,RA=rall g lo OB/\Rt w g OB lo m c rs/\Rel rs L en
theorem Td.keep {S:List Nat} {w w':World} {g:Nat} {RA:List Nat} {L:Lg} {en:Int->Prop} (h:Td w g RA L en) (hf:Fr S w w') (hS: ∀j∈RA,j∉S):Td w' g RA L en:=by
 obtain⟨lo,m,c,OB,rs,rfl,h1,h2⟩:=h
 exact⟨lo,m,c,OB,rs,rfl,h1.keep hf hS,h2⟩
theorem zzc {w:World} {g:Nat} {L:Lg} {en:Int->Prop} {lo:Option Addr} {m c:Nat} {OB:List Nat} {rs:List Ro} (hr:Rt w g OB lo m c rs) (hl:Rel rs L en) {x:Int} (hx:Op11 L en x): ∃k,k<m/\isAt rs x k/\ ∀j,j<m->isAt rs x j->j=k:=by
 obtain⟨k,hk,h1,h2⟩:=(hl.op_iff x).1 hx
 refine⟨k,by rw[hr.len];exact hk,⟨h1,h2⟩,fun j hj hj2=> ?_⟩
 rw[hr.len]at hj
 apply Classical.byContradiction
 intro hne
 rcases Nat.lt_or_gt_of_ne hne with h3|h3
 ·have:=hl.lt h3 hk;have:=hj2.1;omega
 ·have:=hl.lt h3 hj;have:=hj2.1;omega
theorem zzd {w:World} {g:Nat} {L:Lg} {en:Int->Prop} {lo:Option Addr} {m c:Nat} {OB:List Nat} {rs:List Ro} (hr:Rt w g OB lo m c rs) (hl:Rel rs L en) {x:Int} (hx: ¬Op11 L en x): ∀k,k<m-> ¬isAt rs x k:=fun k hk hat=>hx ((hl.op_iff x).2 ⟨k,by rw[<-hr.len];exact hk,hat.1,hat.2⟩)
theorem zxo {w:World} {g:Nat} {RA:List Nat} {L:Lg} {en:Int->Prop} (h:Td w g RA L en) (x:Int) :
  Calls Tryz.prog 133 #[.pointer (some ⟨g,0,none⟩),.int .i64 x] w fun e w'=> ∃so N c er RA',e= .returned (.tuple #[.slice so N c,.int .i64 er])/\IOw w.heap.size w' so N c (frx L en x)/\Td w' g RA' L (enx L en x)/\(∀j∈RA',j∈RA\/w.heap.size<=j)/\Fr RA w w':=by
 obtain⟨lo,m,c,OB,rs,rfl,hr,hl⟩:=h
 by_cases ho:Op11 L en x
 ·obtain⟨k,hk,hat,huni⟩:=zzc hr hl ho
  have hkl:k<rs.length:=by rw[<-hr.len];exact hk
  have hwt:=hl.wt _ (zbi hkl)
  rw[hat.1]at hwt
  by_cases hxs:(rs.getD k Ro.zero).xs=[]
  ·have hfr: ∀y,Op11 L en y-> ¬Dep L x y:=fun y hy hd=>by
    have:=(hwt.2 y).2 ⟨hy,hd⟩
    rw[hxs]at this
    simp at this
   have hm:Mye L en x:=⟨ho,hfr⟩
   have hdt:=hl.freed ho
   rw[zhi hm hdt,zhw hm]
   refine (zsa x w hr hk hat huni hxs).mono ?_
   rintro e w2 ⟨so2,N2,c2,qs,OB',rfl,hO2,hR2,hH,hOB,hF2⟩
   have hl2:Rel qs L (fun y=>en y\/y=x):=hl.done hkl hat.1 hxs hH.1 (fun i hi=>by
    obtain⟨g1,g2,g3,g4⟩:=hH.2 i hi
    rw[if_pos (by rw[hr.len];exact hi)]at g4
    exact⟨g1,g2,g3,g4⟩)
   refine⟨so2,N2,c2,0,rall g lo OB',rfl,hO2,⟨lo,m,c,OB',qs,rfl,hR2,hl2⟩,fun j hj=> ?_,hF2⟩
   simp only[rall,List.mem_cons,List.mem_append,Option.mem_toList]at hj ⊢
   rcases hj with hj|hj|hj
   ·exact Or.inl (Or.inl hj)
   ·exact Or.inl (Or.inr (Or.inl hj))
   ·rcases hOB j hj with e|e
    ·exact Or.inl (Or.inr (Or.inr e))
    ·exact Or.inr e
  ·obtain⟨y,hy⟩:=List.exists_mem_of_ne_nil _ hxs
   obtain⟨hy1,hy2⟩:=(hwt.2 y).1 hy
   have hm: ¬Mye L en x:=fun hm=>hm.2 y hy1 hy2
   rw[zfk hm,zhj hm]
   refine (zma x w hr hk hat huni hxs).mono ?_
   rintro e w2 ⟨rfl,hF2⟩
   exact⟨none,0,0,6,_,rfl,IOw.nil _ _,⟨lo,m,c,OB,rs,rfl,hr.quiet hF2,hl⟩,fun j hj=>Or.inl hj,hF2.mono (by simp)⟩
 ·have hm: ¬Mye L en x:=fun hm=>ho hm.1
  rw[zfk hm,zhj hm]
  refine (zuu x w hr (zzd hr hl ho)).mono ?_
  rintro e w2 ⟨rfl,hF2⟩
  exact⟨none,0,0,1,_,rfl,IOw.nil _ _,⟨lo,m,c,OB,rs,rfl,hr.quiet hF2,hl⟩,fun j hj=>Or.inl hj,hF2.mono (by simp)⟩
theorem zze {w:World} {g:Nat} {RA:List Nat} {L:Lg} {en:Int->Prop} (h:Td w g RA L en) (nn:Int) (wo:Option Addr) (M mc:Nat) (ws:List Wt) (hW:WRs w wo ws) (hM:M=ws.length) (hok:okT nn ws) (hnew: ∀p∈L,p.1<nn) :
  Calls Tryz.prog 130 #[.pointer (some ⟨g,0,none⟩),.agg #[.int .i64 nn,.slice wo M mc]] w fun e w'=> ∃RA',e= .returned (.tuple #[.int .i64 (((adx L en (zah ws)).length:Nat):Int),.int .i64 0])/\Td w' g RA' (L++[(nn,zah ws)]) en/\(∀j∈RA',j∈RA\/w.heap.size<=j)/\Fr RA w w':=by
 obtain⟨lo,m,c,OB,rs,rfl,hr,hl⟩:=h
 refine (zuv nn wo M mc ws w hr hl hW hM hok hnew).mono ?_
 rintro e w' ⟨xs,lo',c',OB',r,rfl,hA,hR,e1,e2,e3,e4,hj,hF⟩
 rw[zhh hA]
 refine⟨rall g lo' OB',rfl,⟨lo',m+1,c',OB',rs++[r],rfl,hR,?_⟩,hj,hF⟩
 have:=hl.add (r:=r) (by rw[e1];exact hnew) (by rw[e1];exact hok.1) (by rw[e2,e3];exact hA) e4
 rw[e1,e2]at this
 exact this
theorem zzf {w:World} {g N c:Nat} {lo:Option Addr} {m:Int} {xs:List Int} (h:OG w g lo N c m xs) (n:Int) :
  Calls Tryz.prog 134 #[.pointer (some ⟨g,0,none⟩),.int .i64 n] w fun e w'=> ∃er,e= .returned (.tuple #[.int .i64 (gdx m xs n).1,.int .i64 er])/\(∃lo' N' c',OG w' g lo' N' c' (gdx m xs n).2.1 (gdx m xs n).2.2/\ ∀b,qb lo'=some b->qb lo=some b\/w.heap.size<=b)/\Fr [g] w w':=by
 obtain⟨up,er,m',xs',hd⟩:=GDo.ex m xs n h.ok
 have e:=zqv hd
 rw[e]
 refine (zxm h hd).mono ?_
 rintro e w' ⟨h1,h2,h3⟩
 exact⟨er,h1,h2,h3⟩
def cW (x:Int×Int):List Value:=[.int .i64 x.1,.int .i64 x.2]
def csW (xs:List (Int×Int)):List Value:=xs.flatMap cW
theorem zhp: ∀xs:List (Int×Int),(csW xs).length=xs.length*2
 | []=>rfl
 | x::r=>by
  show (cW x++csW r).length=_
  rw[List.length_append,zhp r,List.length_cons]
  show 2+r.length*2=_
  omega
theorem zop (a b:List (Int×Int)):csW (a++b)=csW a++csW b:=by simp[csW]
theorem zxp (xs:List (Int×Int)): ∀u∈csW xs,u.oneCell'=true:=by
 intro u hu
 obtain⟨x,_,hx⟩:=List.mem_flatMap.1 hu
 simp only[cW,List.mem_cons,List.not_mem_nil,or_false]at hx
 rcases hx with rfl|rfl<;>rfl
structure QW (w:World) (lo:Option Addr) (n c:Nat) (xs:List (Int×Int)):Prop where
 len:n=xs.length
 fit:n<=c
 row:(lo=none/\c=0)\/ ∃b off cur,lo=some ⟨b,off,none⟩/\w.heap[b]? = some (.cells cur 210 (0,0))/\off+c*2<=cur.size/\ ∀j v,(csW xs)[j]? = some v->cur[off+j]? = some v
theorem QW.nil (w:World):QW w none 0 0 []:=⟨rfl,Nat.le_refl _,.inl ⟨rfl,rfl⟩⟩
theorem QW.keep {S:List Nat} {w w':World} {lo:Option Addr} {n c:Nat} {xs:List (Int×Int)} (h:QW w lo n c xs) (hf:Fr S w w') (hn: ∀b,qb lo=some b->b∉S):QW w' lo n c xs:=by
 refine⟨h.len,h.fit,?_⟩
 rcases h.row with h|⟨b,off,cur,rfl,hb,h⟩
 ·exact .inl h
 ·exact .inr ⟨b,off,cur,rfl,hf.keep hb (hn b rfl),h⟩
theorem QW.blk {w:World} {lo:Option Addr} {n c:Nat} {xs:List (Int×Int)} (h:QW w lo n c xs) {b:Nat} (hb:qb lo=some b): ∃cur,w.heap[b]? = some (.cells cur 210 (0,0)):=by
 rcases h.row with ⟨rfl,h0⟩|⟨b,off,cur,rfl,hb',_,hc⟩
 ·cases hb
 ·cases hb;exact⟨cur,hb'⟩
theorem QW.lt {w:World} {lo:Option Addr} {n c:Nat} {xs:List (Int×Int)} (h:QW w lo n c xs) {b:Nat} (hb:qb lo=some b):b<w.heap.size:=by
 obtain⟨cur,hc⟩:=h.blk hb
 exact lt_of_block hc
theorem zmy: ∀(xs:List (Int×Int)) (i k:Nat) (hi:i<xs.length),k<2->(csW xs)[i*2+k]? = (cW xs[i])[k]?
 | [],i,k,hi,_=>by simp at hi
 | x::r,0,k,_,hk=>by
  show (cW x++csW r)[0*2+k]? = _
  rw[Nat.zero_mul,Nat.zero_add,List.getElem?_append_left (by simp[cW];omega)]
  rfl
 | x::r,i+1,k,hi,hk=>by
  show (cW x++csW r)[(i+1)*2+k]? = _
  have hl:(cW x).length=2:=rfl
  rw[List.getElem?_append_right (by rw[hl];omega),hl,show (i+1)*2+k-2=i*2+k by omega]
  exact zmy r i k (by simpa using hi) hk
theorem QW.cell {w:World} {lo:Option Addr} {n c:Nat} {xs:List (Int×Int)} (h:QW w lo n c xs) (h0:0<n): ∃b off,lo=some ⟨b,off,none⟩/\b<w.heap.size/\ ∀(i k:Nat) (hi:i<xs.length),k<2->w.cell? ⟨b,off+i*2+k,none⟩=(cW xs[i])[k]? :=by
 have hl:=h.len
 have hf:=h.fit
 rcases h.row with ⟨_,h1⟩|⟨b,off,cur,rfl,hb,hoc,hc⟩
 ·omega
 ·refine⟨b,off,rfl,lt_of_block hb,fun i k hi hk=> ?_⟩
  rw[cell_of_row _ _ _ _ _ _ hb,Nat.add_assoc]
  have hg:=zmy xs i k hi hk
  have hs: ∃v,(cW xs[i])[k]? = some v:=⟨_,List.getElem?_eq_getElem (by show k<2;exact hk)⟩
  obtain⟨v,hv⟩:=hs
  rw[hv]at hg ⊢
  exact hc _ v hg
theorem QW.tail {w:World} {lo:Option Addr} {n c:Nat} {x:Int×Int} {xs:List (Int×Int)} (h:QW w lo n c (x::xs)): ∃b off,lo=some ⟨b,off,none⟩/\0<c/\n=xs.length+1/\ ∀so,so=(if c=1 then some ⟨b,off,none⟩ else some ⟨b,off+2,none⟩)->QW w so (n-1) (c-1) xs/\qb so=qb lo:=by
 have hl:=h.len
 have hf:=h.fit
 simp only[List.length_cons]at hl
 rcases h.row with ⟨_,h0⟩|⟨b,off,cur,rfl,hb,hoc,hc⟩
 ·omega
 ·refine⟨b,off,rfl,by omega,hl,?_⟩
  rintro so rfl
  by_cases h1:c=1
  ·rw[if_pos h1]
   have:xs=[]:=List.eq_nil_of_length_eq_zero (by omega)
   subst this
   exact⟨⟨by simp at hl;simp;omega,by omega,.inr ⟨b,off,cur,rfl,hb,by omega,fun j v hj=>by simp[csW]at hj⟩⟩,rfl⟩
  ·rw[if_neg h1]
   refine⟨⟨by omega,by omega,.inr ⟨b,off+2,cur,rfl,hb,by omega,fun j v hj=> ?_⟩⟩,rfl⟩
   rw[Nat.add_assoc,Nat.add_comm 2 j]
   refine hc (j+2) v ?_
   show (cW x++csW xs)[j+2]? = _
   have hl2:(cW x).length=2:=rfl
   rw[List.getElem?_append_right (by rw[hl2];omega),hl2,Nat.add_sub_cancel]
   exact hj
theorem Tryz.undW21:Tryz.prog.underlying 208=some (.slice 210):=by kernel_rfl
theorem Tryz.infoW21:(Tryz.prog.info? 210).map (fun i=>(i.zero,i.size,i.bytes))=some (some (.agg #[.int .i64 0,.int .i64 0]),2,16):=by kernel_rfl
theorem zvc (w:World) (ty:TypeId) (lo:Option Addr) (n c:Nat) (xs:List (Int×Int)) (v:Value) (x:Int×Int) (h:QW w lo n c xs) (hsrc:Src Tryz.prog 2 208 v 1 (cW x) w) (hn:n<=1099511627776) :
  ∃lo' c' w',(Builtin.append_ #[208,208] ty #[.slice lo n c,v]).run Tryz.prog w= .ok (.slice lo' (n+1) c') w'/\QW w' lo' (n+1) c' (xs++[x])/\Fr (qb lo).toList w w'/\(qb lo'=qb lo\/ ∃k,qb lo'=some k/\w.heap.size<=k):=by
 obtain⟨i0,hi,hz0,hz1,hz2⟩:=info_parts Tryz.infoW21
 have hl:=h.len
 have hmx:2199023255552<=maxLen:=by unfold maxLen;omega
 have hcl:(cW x).length=2:=rfl
 rw[<-hz1]at hsrc
 have happ:csW (xs++[x])=csW xs++cW x:=by rw[zop];simp[csW]
 have hcn:=zhp xs
 by_cases hroom:n+1<=c
 ·rcases h.row with ⟨rfl,h0⟩|⟨b,off,cur,rfl,hb,hoc,hc⟩
  ·omega
  ·have hr:=run_append_room_src (P:=Tryz.prog) w 208 208 ty 210 i0 Tryz.undW21 hi b off n c _ 1 _ hsrc hroom
    (by intro j hj;rw[hcl]at hj;rw[hz1,cell_of_row _ _ _ _ _ _ hb];simp;omega)
    (by intro j hj;simp[World.frozen?,hb])
   rw[hz1]at hr
   have hsz:off+n*2+(cW x).length<=cur.size:=by rw[hcl];omega
   obtain⟨k1,k2⟩:=zcp (cW x) (off+n*2) w cur hb hsz
   refine⟨_,c,_,hr,⟨by simp[hl],hroom,.inr ⟨b,off,_,rfl,k1,?_,fun j v hj=> ?_⟩⟩,k2.mono (by simp[qb]),.inl rfl⟩
   ·rw[List.size_toArray,length_splice _ _ _ (by simpa using hsz)]
    simpa using hoc
   ·rw[List.getElem?_toArray]
    unfold splice
    rw[happ]at hj
    have hlv:(csW xs).length=n*2:=by rw[hcn,hl]
    by_cases hjn:j<n*2
    ·rw[List.getElem?_append_left (by omega)]at hj
     have:=hc j v hj
     rw[List.getElem?_append_left (by simp;omega),List.getElem?_take_of_lt (by omega)]
     simpa using this
    ·rw[List.getElem?_append_right (by omega),hlv]at hj
     have hj9:=(List.getElem?_eq_some_iff.1 hj).1
     rw[List.getElem?_append_right (by simp;omega)]
     have e2:off+j-(List.take (off+n*2) cur.toList).length=j-n*2:=by simp;omega
     rw[e2,List.getElem?_append_left hj9]
     exact hj
 ·have hold:(Builtin.firstCells i0.size n (.slice lo n c)).run Tryz.prog w.drew= .ok (csW xs).toArray w.drew:=by
   rcases h.row with ⟨rfl,h0⟩|⟨b,off,cur,rfl,hb,hoc,hc⟩
   ·have:xs=[]:=List.eq_nil_of_length_eq_zero (by have:=h.fit;omega)
    subst this
    exact run_firstCells_none (P:=Tryz.prog) w.drew i0.size n n c
   ·refine run_firstCells_some (P:=Tryz.prog) w.drew i0.size n ⟨b,off,none⟩ n c (csW xs) (by rw[hz1,hcn,hl]) ?_
    intro j v hj
    rw[Addr.add_lit]
    show w.cell? _=_
    rw[cell_of_row _ _ _ _ _ _ hb]
    exact hc j v hj
  have hr:=run_append_grow_src (P:=Tryz.prog) w 208 208 ty 210 i0 _ Tryz.undW21 hi hz0 lo n c (csW xs) hold _ 1 _ hsrc (by omega) (by omega) (by rw[hz2];exact growslice_fits (by omega) (by omega))
  have hG:=grownCap_ge w (n+1) c 210
  refine⟨_,_,_,hr,⟨by simp[hl],hG,.inr ⟨w.heap.size,0,_,rfl,heap_alloc_new w.drew _,?_,fun j v hj=> ?_⟩⟩,?_,.inr ⟨_,rfl,Nat.le_refl _⟩⟩
  ·simp only[Array.size_append,size_zeroCells,List.size_toArray,List.length_append,hcn,hcl]
   simp[Value.cells]
   omega
  ·have hjl:=(List.getElem?_eq_some_iff.1 hj).1
   rw[Nat.zero_add,Array.getElem?_append_left (by rw[List.size_toArray,<-happ];exact hjl),List.getElem?_toArray,<-happ]
   exact hj
  ·exact (Fr.drew _ w).then (Fr.alloc _ w.drew _)
def cC (x:Dc):List Value:=[.int .i64 x.n,.int .i64 (x.asked:Int),.int .i64 (x.served:Int),.bool x.ended]
def csC (xs:List (Dc)):List Value:=xs.flatMap cC
theorem zev: ∀xs:List (Dc),(csC xs).length=xs.length*4
 | []=>rfl
 | x::r=>by
  show (cC x++csC r).length=_
  rw[List.length_append,zev r,List.length_cons]
  show 4+r.length*4=_
  omega
theorem zoq (a b:List (Dc)):csC (a++b)=csC a++csC b:=by simp[csC]
theorem zxq (xs:List (Dc)): ∀u∈csC xs,u.oneCell'=true:=by
 intro u hu
 obtain⟨x,_,hx⟩:=List.mem_flatMap.1 hu
 simp only[cC,List.mem_cons,List.not_mem_nil,or_false]at hx
 rcases hx with rfl|rfl|rfl|rfl<;>rfl
structure QC (w:World) (lo:Option Addr) (n c:Nat) (xs:List (Dc)):Prop where
 len:n=xs.length
 fit:n<=c
 row:(lo=none/\c=0)\/ ∃b off cur,lo=some ⟨b,off,none⟩/\w.heap[b]? = some (.cells cur 206 (0,0))/\off+c*4<=cur.size/\ ∀j v,(csC xs)[j]? = some v->cur[off+j]? = some v
theorem QC.nil (w:World):QC w none 0 0 []:=⟨rfl,Nat.le_refl _,.inl ⟨rfl,rfl⟩⟩
theorem QC.keep {S:List Nat} {w w':World} {lo:Option Addr} {n c:Nat} {xs:List (Dc)} (h:QC w lo n c xs) (hf:Fr S w w') (hn: ∀b,qb lo=some b->b∉S):QC w' lo n c xs:=by
 refine⟨h.len,h.fit,?_⟩
 rcases h.row with h|⟨b,off,cur,rfl,hb,h⟩
 ·exact .inl h
 ·exact .inr ⟨b,off,cur,rfl,hf.keep hb (hn b rfl),h⟩
theorem QC.blk {w:World} {lo:Option Addr} {n c:Nat} {xs:List (Dc)} (h:QC w lo n c xs) {b:Nat} (hb:qb lo=some b): ∃cur,w.heap[b]? = some (.cells cur 206 (0,0)):=by
 rcases h.row with ⟨rfl,h0⟩|⟨b,off,cur,rfl,hb',_,hc⟩
 ·cases hb
 ·cases hb;exact⟨cur,hb'⟩
theorem QC.lt {w:World} {lo:Option Addr} {n c:Nat} {xs:List (Dc)} (h:QC w lo n c xs) {b:Nat} (hb:qb lo=some b):b<w.heap.size:=by
 obtain⟨cur,hc⟩:=h.blk hb
 exact lt_of_block hc
theorem zgb: ∀(xs:List (Dc)) (i k:Nat) (hi:i<xs.length),k<4->(csC xs)[i*4+k]? = (cC xs[i])[k]?
 | [],i,k,hi,_=>by simp at hi
 | x::r,0,k,_,hk=>by
  show (cC x++csC r)[0*4+k]? = _
  rw[Nat.zero_mul,Nat.zero_add,List.getElem?_append_left (by simp[cC];omega)]
  rfl
 | x::r,i+1,k,hi,hk=>by
  show (cC x++csC r)[(i+1)*4+k]? = _
  have hl:(cC x).length=4:=rfl
  rw[List.getElem?_append_right (by rw[hl];omega),hl,show (i+1)*4+k-4=i*4+k by omega]
  exact zgb r i k (by simpa using hi) hk
theorem QC.cell {w:World} {lo:Option Addr} {n c:Nat} {xs:List (Dc)} (h:QC w lo n c xs) (h0:0<n): ∃b off,lo=some ⟨b,off,none⟩/\b<w.heap.size/\ ∀(i k:Nat) (hi:i<xs.length),k<4->w.cell? ⟨b,off+i*4+k,none⟩=(cC xs[i])[k]? :=by
 have hl:=h.len
 have hf:=h.fit
 rcases h.row with ⟨_,h1⟩|⟨b,off,cur,rfl,hb,hoc,hc⟩
 ·omega
 ·refine⟨b,off,rfl,lt_of_block hb,fun i k hi hk=> ?_⟩
  rw[cell_of_row _ _ _ _ _ _ hb,Nat.add_assoc]
  have hg:=zgb xs i k hi hk
  have hs: ∃v,(cC xs[i])[k]? = some v:=⟨_,List.getElem?_eq_getElem (by show k<4;exact hk)⟩
  obtain⟨v,hv⟩:=hs
  rw[hv]at hg ⊢
  exact hc _ v hg
theorem Tryz.undC21:Tryz.prog.underlying 85=some (.slice 206):=by kernel_rfl
theorem Tryz.infoC21:(Tryz.prog.info? 206).map (fun i=>(i.zero,i.size,i.bytes))=some (some (.agg #[.int .i64 0,.int .i64 0,.int .i64 0,.bool false]),4,32):=by kernel_rfl
theorem zvd (w:World) (ty:TypeId) (lo:Option Addr) (n c:Nat) (xs:List (Dc)) (v:Value) (x:Dc) (h:QC w lo n c xs) (hsrc:Src Tryz.prog 4 85 v 1 (cC x) w) (hn:n<=1099511627776) :
  ∃lo' c' w',(Builtin.append_ #[85,85] ty #[.slice lo n c,v]).run Tryz.prog w= .ok (.slice lo' (n+1) c') w'/\QC w' lo' (n+1) c' (xs++[x])/\Fr (qb lo).toList w w'/\(qb lo'=qb lo\/ ∃k,qb lo'=some k/\w.heap.size<=k):=by
 obtain⟨i0,hi,hz0,hz1,hz2⟩:=info_parts Tryz.infoC21
 have hl:=h.len
 have hmx:2199023255552<=maxLen:=by unfold maxLen;omega
 have hcl:(cC x).length=4:=rfl
 rw[<-hz1]at hsrc
 have happ:csC (xs++[x])=csC xs++cC x:=by rw[zoq];simp[csC]
 have hcn:=zev xs
 by_cases hroom:n+1<=c
 ·rcases h.row with ⟨rfl,h0⟩|⟨b,off,cur,rfl,hb,hoc,hc⟩
  ·omega
  ·have hr:=run_append_room_src (P:=Tryz.prog) w 85 85 ty 206 i0 Tryz.undC21 hi b off n c _ 1 _ hsrc hroom
    (by intro j hj;rw[hcl]at hj;rw[hz1,cell_of_row _ _ _ _ _ _ hb];simp;omega)
    (by intro j hj;simp[World.frozen?,hb])
   rw[hz1]at hr
   have hsz:off+n*4+(cC x).length<=cur.size:=by rw[hcl];omega
   obtain⟨k1,k2⟩:=zcp (cC x) (off+n*4) w cur hb hsz
   refine⟨_,c,_,hr,⟨by simp[hl],hroom,.inr ⟨b,off,_,rfl,k1,?_,fun j v hj=> ?_⟩⟩,k2.mono (by simp[qb]),.inl rfl⟩
   ·rw[List.size_toArray,length_splice _ _ _ (by simpa using hsz)]
    simpa using hoc
   ·rw[List.getElem?_toArray]
    unfold splice
    rw[happ]at hj
    have hlv:(csC xs).length=n*4:=by rw[hcn,hl]
    by_cases hjn:j<n*4
    ·rw[List.getElem?_append_left (by omega)]at hj
     have:=hc j v hj
     rw[List.getElem?_append_left (by simp;omega),List.getElem?_take_of_lt (by omega)]
     simpa using this
    ·rw[List.getElem?_append_right (by omega),hlv]at hj
     have hj9:=(List.getElem?_eq_some_iff.1 hj).1
     rw[List.getElem?_append_right (by simp;omega)]
     have e2:off+j-(List.take (off+n*4) cur.toList).length=j-n*4:=by simp;omega
     rw[e2,List.getElem?_append_left hj9]
     exact hj
 ·have hold:(Builtin.firstCells i0.size n (.slice lo n c)).run Tryz.prog w.drew= .ok (csC xs).toArray w.drew:=by
   rcases h.row with ⟨rfl,h0⟩|⟨b,off,cur,rfl,hb,hoc,hc⟩
   ·have:xs=[]:=List.eq_nil_of_length_eq_zero (by have:=h.fit;omega)
    subst this
    exact run_firstCells_none (P:=Tryz.prog) w.drew i0.size n n c
   ·refine run_firstCells_some (P:=Tryz.prog) w.drew i0.size n ⟨b,off,none⟩ n c (csC xs) (by rw[hz1,hcn,hl]) ?_
    intro j v hj
    rw[Addr.add_lit]
    show w.cell? _=_
    rw[cell_of_row _ _ _ _ _ _ hb]
    exact hc j v hj
  have hr:=run_append_grow_src (P:=Tryz.prog) w 85 85 ty 206 i0 _ Tryz.undC21 hi hz0 lo n c (csC xs) hold _ 1 _ hsrc (by omega) (by omega) (by rw[hz2];exact growslice_fits (by omega) (by omega))
  have hG:=grownCap_ge w (n+1) c 206
  refine⟨_,_,_,hr,⟨by simp[hl],hG,.inr ⟨w.heap.size,0,_,rfl,heap_alloc_new w.drew _,?_,fun j v hj=> ?_⟩⟩,?_,.inr ⟨_,rfl,Nat.le_refl _⟩⟩
  ·simp only[Array.size_append,size_zeroCells,List.size_toArray,List.length_append,hcn,hcl]
   simp[Value.cells]
   omega
  ·have hjl:=(List.getElem?_eq_some_iff.1 hj).1
   rw[Nat.zero_add,Array.getElem?_append_left (by rw[List.size_toArray,<-happ];exact hjl),List.getElem?_toArray,<-happ]
   exact hj
  ·exact (Fr.drew _ w).then (Fr.alloc _ w.drew _)
structure Zd where
 sb:Nat
 g:Nat
 tb:Nat
 lb:Nat
 qq:Nat
 RA:List Nat
 gr:Sq
 ln:Sq
 gn:Sq
 cl:Sq
 q:Nat->Sq
 logo:Option Addr
 M:Nat
 mc:Nat
 bo:Option Addr
 bn:Nat
 bc:Nat
def Zd.part (Z:Zd):Nat->List Nat
 | 0=>[Z.sb]
 | 1=>Z.g::(qb Z.gr.lo).toList
 | 2=>[Z.lb]
 | 3=>[Z.qq]
 | 4=>Z.RA
 | 5=>(qb Z.ln.lo).toList
 | 6=>(qb Z.gn.lo).toList
 | 7=>(qb Z.cl.lo).toList
 | n+8=>(qb (Z.q n).lo).toList
def dsC (c:Cf) (Z:Zd) (at_ held:Int):List Value :=
 [.int .i64 c.l,.int .i64 c.s,.int .i64 c.w,.int .i64 c.q,.slice Z.logo Z.M Z.mc,.int .i64 at_,.int .i64 held,.slice Z.bo Z.bn Z.bc,.pointer (some ⟨Z.tb,0,none⟩),.pointer (some ⟨Z.g,0,none⟩),Z.ln.v,Z.gn.v,.slice (some ⟨Z.lb,0,none⟩) c.l.toNat c.l.toNat,.slice (some ⟨Z.qq,0,none⟩) c.s.toNat c.s.toNat,Z.cl.v]
structure LnAt (cur:Array Value) (i:Nat) (ts:List Tm) (x:Dl):Prop where
 c0:cur[5*i]? = some (.int .i64 x.n)
 c1: ∃wo M mc,cur[5*i+1]? = some (.slice wo M mc)/\(x.has=true->1<=x.n/\ ∃t,ts[(x.n-1).toNat]? = some t/\wo=t.ao/\M=t.L/\mc=t.cap)
 c2:cur[5*i+2]? = some (.bool x.has)
 c3:cur[5*i+3]? = some (.int .i64 (x.sent:Int))
 c4:cur[5*i+4]? = some (.int .i64 (x.acked:Int))
def Pm (w:World) (Z:Zd) (c:Cf) (ts:List Tm) (d:Ds):Nat->Prop
 | 0=>w.heap[Z.sb]? = some (.cells (dsC c Z d.at_ d.held).toArray 87 (0,0))
 | 1=>OG w Z.g Z.gr.lo Z.gr.n Z.gr.c d.ma d.bx
 | 2=> ∃cur,w.heap[Z.lb]? = some (.cells cur 215 (0,0))/\cur.size=5*c.l.toNat/\ ∀i,i<c.l.toNat->LnAt cur i ts (d.lan i)
 | 3=> ∃cur,w.heap[Z.qq]? = some (.cells cur 208 (0,0))/\cur.size=c.s.toNat/\ ∀j,j<c.s.toNat->cur[j]? = some (Z.q j).v
 | 4=>Td w Z.tb Z.RA d.L d.en
 | 5=>QR w Z.ln.lo Z.ln.n Z.ln.c d.line
 | 6=>QR w Z.gn.lo Z.gn.n Z.gn.c d.gone
 | 7=>QC w Z.cl.lo Z.cl.n Z.cl.c d.cal
 | n+8=>QW w (Z.q n).lo (Z.q n).n (Z.q n).c (d.que n)
theorem Pm.keep {S:List Nat} {w w':World} {Z:Zd} {c:Cf} {ts:List Tm} {d:Ds}: ∀ {p:Nat},Pm w Z c ts d p->Fr S w w'->(∀b∈Z.part p,b∉S)->Pm w' Z c ts d p
 | 0,h,hf,hS=>hf.keep h (hS _ (by simp[Zd.part]))
 | 1,h,hf,hS=>OG.keep h hf (hS _ (by simp[Zd.part])) (fun b hb=>hS b (by simp[Zd.part,hb]))
 | 2,⟨cur,h1,h2⟩,hf,hS=>⟨cur,hf.keep h1 (hS _ (by simp[Zd.part])),h2⟩
 | 3,⟨cur,h1,h2⟩,hf,hS=>⟨cur,hf.keep h1 (hS _ (by simp[Zd.part])),h2⟩
 | 4,h,hf,hS=>Td.keep h hf hS
 | 5,h,hf,hS=>QR.keep h hf (fun b hb=>hS b (by simp[Zd.part,hb]))
 | 6,h,hf,hS=>QR.keep h hf (fun b hb=>hS b (by simp[Zd.part,hb]))
 | 7,h,hf,hS=>QC.keep h hf (fun b hb=>hS b (by simp[Zd.part,hb]))
 | n+8,h,hf,hS=>QW.keep h hf (fun b hb=>hS b (by simp[Zd.part,hb]))
theorem Td.lt {w:World} {g:Nat} {RA:List Nat} {L:Lg} {en:Int->Prop} (h:Td w g RA L en): ∀j∈RA,j<w.heap.size:=by
 obtain⟨lo,m,c,OB,rs,rfl,h1,h2⟩:=h
 exact h1.mineA
theorem OG.rowlt {w:World} {g N c:Nat} {lo:Option Addr} {m:Int} {xs:List Int} (h:OG w g lo N c m xs) {b:Nat} (hb:qb lo=some b):b<w.heap.size:=by
 obtain⟨cur,hc⟩:=h.row.ty hb
 exact lt_of_block hc
theorem Pm.lt {w:World} {Z:Zd} {c:Cf} {ts:List Tm} {d:Ds}: ∀ {p:Nat},Pm w Z c ts d p-> ∀b∈Z.part p,b<w.heap.size
 | 0,h,b,hb=>by
  have e:b=Z.sb:=by simpa[Zd.part]using hb
  rw[e];exact lt_of_block h
 | 1,h,b,hb=>by
  have e:b=Z.g\/qb Z.gr.lo=some b:=by simpa[Zd.part]using hb
  rcases e with e|e
  ·rw[e];exact OG.lt h
  ·exact OG.rowlt h e
 | 2,⟨cur,h,_⟩,b,hb=>by
  have e:b=Z.lb:=by simpa[Zd.part]using hb
  rw[e];exact lt_of_block h
 | 3,⟨cur,h,_⟩,b,hb=>by
  have e:b=Z.qq:=by simpa[Zd.part]using hb
  rw[e];exact lt_of_block h
 | 4,h,b,hb=>Td.lt h b hb
 | 5,h,b,hb=>QR.lt h (by simpa[Zd.part]using hb)
 | 6,h,b,hb=>QR.lt h (by simpa[Zd.part]using hb)
 | 7,h,b,hb=>QC.lt h (by simpa[Zd.part]using hb)
 | n+8,h,b,hb=>QW.lt h (by simpa[Zd.part]using hb)
structure DsM (wS w:World) (Z:Zd) (c:Cf) (ts:List Tm) (xs:List Int) (d:Ds):Prop where
 pm: ∀p,Pm w Z c ts d p
 ap: ∀p p' b,b∈Z.part p->b∈Z.part p'->p=p'
 base: ∀p,∀b∈Z.part p,wS.heap.size<=b
 fr:Fr [] wS w
 log:TRs wS Z.logo ts
 len:Z.M=ts.length/\Z.M<=Z.mc
 byd:IRs wS Z.bo xs/\Z.bn=xs.length/\Z.bn<=Z.bc
 may:c.may
def Same (Z Z':Zd):Prop:=Z'.sb=Z.sb/\Z'.logo=Z.logo/\Z'.M=Z.M/\Z'.mc=Z.mc/\Z'.bo=Z.bo/\Z'.bn=Z.bn/\Z'.bc=Z.bc
structure Mvd (w:World) (Z:Zd) (w':World) (Z':Zd):Prop where
 fr: ∃S,Fr S w w'/\ ∀b∈S,∃p,b∈Z.part p
 sub: ∀p,∀b∈Z'.part p,(∃p',b∈Z.part p')\/w.heap.size<=b
 same:Same Z Z'
theorem Same.refl (Z:Zd):Same Z Z:=⟨rfl,rfl,rfl,rfl,rfl,rfl,rfl⟩
theorem Same.trans {Z Z' Z'':Zd} (h:Same Z Z') (k:Same Z' Z''):Same Z Z'':=by
 obtain⟨a,b,c,d,e,f,g⟩:=h
 obtain⟨a',b',c',d',e',f',g'⟩:=k
 exact⟨a'.trans a,b'.trans b,c'.trans c,d'.trans d,e'.trans e,f'.trans f,g'.trans g⟩
theorem Mvd.quiet {w w':World} {Z:Zd} (h:Fr [] w w'):Mvd w Z w' Z:=⟨⟨[],h,by simp⟩,fun p b hb=>Or.inl ⟨p,hb⟩,Same.refl Z⟩
theorem Mvd.size {w w':World} {Z Z':Zd} (h:Mvd w Z w' Z'):w.heap.size<=w'.heap.size:=by
 obtain⟨S,hf,_⟩:=h.fr
 exact hf.size
theorem Mvd.trans {w w' w'':World} {Z Z' Z'':Zd} (h:Mvd w Z w' Z') (k:Mvd w' Z' w'' Z''):Mvd w Z w'' Z'':=by
 obtain⟨S,hf,hS⟩:=h.fr
 obtain⟨T,kf,kS⟩:=k.fr
 refine⟨⟨S++T.filter (fun b=>decide (b<w.heap.size)),hf.trans kf (fun x hx _=>List.mem_append_left _ hx) (fun x hx hl=>List.mem_append_right _ (List.mem_filter.2 ⟨hx,by simpa using hl⟩)),fun b hb=> ?_⟩,fun p b hb=> ?_,h.same.trans k.same⟩
 ·rcases List.mem_append.1 hb with e|e
  ·exact hS b e
  ·obtain⟨e1,e2⟩:=List.mem_filter.1 e
   have e2:b<w.heap.size:=by simpa using e2
   obtain⟨p,hp⟩:=kS b e1
   rcases h.sub p b hp with h3|h3
   ·exact h3
   ·omega
 ·rcases k.sub p b hb with ⟨p',h3⟩|h3
  ·exact h.sub p' b h3
  ·exact Or.inr (Nat.le_trans h.size h3)
theorem Mvd.keep {w w':World} {Z Z':Zd} (h:Mvd w Z w' Z') {b:Nat} {o:Obj} (hb:w.heap[b]? = some o) (hn: ∀p,b∉Z.part p):w'.heap[b]? = some o:=by
 obtain⟨S,hf,hS⟩:=h.fr
 exact hf.keep hb (fun hm=>by obtain⟨p,hp⟩:=hS b hm;exact hn p hp)
theorem Mvd.not {w w':World} {Z Z':Zd} (h:Mvd w Z w' Z') {b:Nat} (hb:b<w.heap.size) (hn: ∀p,b∉Z.part p): ∀p,b∉Z'.part p:=fun p hp=>by
 rcases h.sub p b hp with ⟨p',h1⟩|h1
 ·exact hn p' h1
 ·omega
theorem DsM.step {wS w w':World} {Z Z':Zd} {c:Cf} {ts:List Tm} {xs:List Int} {d d':Ds} (h:DsM wS w Z c ts xs d) (ps:List Nat) (pn:Nat) {S:List Nat} (hf:Fr S w w') (hS: ∀b∈S,∃p∈ps,b∈Z.part p)
  (hsame: ∀p,p∉ps->Z'.part p=Z.part p/\(Pm w' Z c ts d p->Pm w' Z' c ts d' p)) (hnew: ∀p∈ps,Pm w' Z' c ts d' p/\ ∀b∈Z'.part p,b∈Z.part p\/(p=pn/\w.heap.size<=b)) (hz:Same Z Z'):DsM wS w' Z' c ts xs d'/\Mvd w Z w' Z':=by
 obtain⟨z0,z1,z2,z3,z4,z5,z6⟩:=id hz
 have hlt: ∀p,∀b∈Z.part p,b<w.heap.size:=fun p=>(h.pm p).lt
 have hpart: ∀p,∀b∈Z'.part p,b∈Z.part p\/(p=pn/\w.heap.size<=b):=fun p b hb=>by
  by_cases e:p∈ps
  ·exact (hnew p e).2 b hb
  ·rw[(hsame p e).1]at hb;exact Or.inl hb
 refine⟨⟨fun p=> ?_,fun p p' b h1 h2=> ?_,fun p b hb=> ?_,h.fr.on hf fun x hx=> ?_,by rw[z1];exact h.log,by rw[z2,z3];exact h.len,by rw[z4,z5,z6];exact h.byd,h.may⟩,⟨⟨S,hf,fun b hb=> ?_⟩,fun p b hb=> ?_,hz⟩⟩
 ·by_cases e:p∈ps
  ·exact (hnew p e).1
  ·refine (hsame p e).2 ((h.pm p).keep hf fun b hb hbS=> ?_)
   obtain⟨p',h1,h2⟩:=hS b hbS
   exact e (by rw[h.ap p p' b hb h2];exact h1)
 ·rcases hpart p b h1 with a|⟨a,a2⟩<;>rcases hpart p' b h2 with k|⟨k,k2⟩
  ·exact h.ap p p' b a k
  ·have:=hlt p b a;omega
  ·have:=hlt p' b k;omega
  ·rw[a,k]
 ·rcases hpart p b hb with a|⟨_,a⟩
  ·exact h.base p b a
  ·exact Nat.le_trans h.fr.size a
 ·obtain⟨p,_,hp⟩:=hS x hx
  exact h.base p x hp
 ·obtain⟨p,_,hp⟩:=hS b hb
  exact⟨p,hp⟩
 ·rcases hpart p b hb with a|⟨_,a⟩
  ·exact Or.inl ⟨p,a⟩
  ·exact Or.inr a
theorem DsM.quiet {wS w w':World} {Z:Zd} {c:Cf} {ts:List Tm} {xs:List Int} {d:Ds} (h:DsM wS w Z c ts xs d) (hf:Fr [] w w'):DsM wS w' Z c ts xs d :=
 (h.step [] 0 hf (by simp) (fun p _=>⟨rfl,id⟩) (by simp) ⟨rfl,rfl,rfl,rfl,rfl,rfl,rfl⟩).1
section
variable {wS w w':World} {Z:Zd} {c:Cf} {ts:List Tm} {xs:List Int} {d:Ds}
theorem DsM.cell (h:DsM wS w Z c ts xs d) {j:Nat} {v:Value} (hv:(dsC c Z d.at_ d.held)[j]? = some v):w.cell? ⟨Z.sb,j,none⟩=some v:=by
 have hb:w.heap[Z.sb]? = some (.cells (dsC c Z d.at_ d.held).toArray 87 (0,0)):=h.pm 0
 rw[cell_of_row _ _ _ _ _ _ hb,List.getElem?_toArray]
 exact hv
theorem DsM.fz (h:DsM wS w Z c ts xs d) (j:Nat):w.frozen? ⟨Z.sb,j,none⟩=false:=by
 have hb:w.heap[Z.sb]? = some (.cells (dsC c Z d.at_ d.held).toArray 87 (0,0)):=h.pm 0
 simp[World.frozen?,hb]
theorem DsM.ne0 (h:DsM wS w Z c ts xs d) {p b:Nat} (hb:b∈Z.part p) (hp:p≠0):b≠Z.sb:=fun e=>hp (h.ap p 0 b hb (by simp[Zd.part,e]))
theorem DsM.trs (h:DsM wS w Z c ts xs d):TRs w Z.logo ts:=h.log.keep h.fr
theorem DsM.at_ (h:DsM wS w Z c ts xs d) (n:Int):DsM wS (w.setCell ⟨Z.sb,5,none⟩ (.int .i64 n)) Z c ts xs { d with at_:=n }/\Mvd w Z (w.setCell ⟨Z.sb,5,none⟩ (.int .i64 n)) Z:=by
 have hb:w.heap[Z.sb]? = some (.cells (dsC c Z d.at_ d.held).toArray 87 (0,0)):=h.pm 0
 refine h.step [0] 0 (Fr.set (S:=[Z.sb]) w _ _ (by simp)) (fun b hb=>⟨0,by simp,by simpa[Zd.part]using hb⟩) (fun p hp=>⟨rfl,fun hm=> ?_⟩) (fun p hp=> ?_) ⟨rfl,rfl,rfl,rfl,rfl,rfl,rfl⟩
 ·match p,hp,hm with
  | 0,hp,hm=>simp at hp
  | 1,_,hm|2,_,hm|3,_,hm|4,_,hm|5,_,hm|6,_,hm|7,_,hm|n+8,_,hm=>exact hm
 ·have e:p=0:=by simpa using hp
  subst e
  refine⟨?_,fun b hb=>Or.inl hb⟩
  show (w.setCell ⟨Z.sb,5,none⟩ (.int .i64 n)).heap[Z.sb]? = _
  rw[zag _ hb]
  rfl
end
theorem DsM.other {wS w w':World} {Z:Zd} {c:Cf} {ts:List Tm} {xs:List Int} {d:Ds} (h:DsM wS w Z c ts xs d) {b:Nat} (hf:Fr [b] w w') (hn: ∀p,b∉Z.part p) (hb:wS.heap.size<=b):DsM wS w' Z c ts xs d :=
 ⟨fun p=>(h.pm p).keep hf (fun x hx hm=>hn p (by rw[<-List.mem_singleton.1 hm];exact hx)),h.ap,h.base,h.fr.on hf (by simpa using hb),h.log,h.len,h.byd,h.may⟩
structure Dr (wS w W:World) (Z Z':Zd) (c:Cf) (ts:List Tm) (xs:List Int) (d:Ds):Prop where
 m:DsM wS W Z' c ts xs d
 v:Mvd w Z W Z'
theorem DsM.dr {wS w:World} {Z:Zd} {c:Cf} {ts:List Tm} {xs:List Int} {d:Ds} (h:DsM wS w Z c ts xs d):Dr wS w w Z Z c ts xs d:=⟨h,Mvd.quiet (Fr.refl _ _)⟩
theorem Dr.go {wS w W W':World} {Z Z' Z'':Zd} {c:Cf} {ts:List Tm} {xs:List Int} {d d':Ds} (h:Dr wS w W Z Z' c ts xs d) (k:DsM wS W' Z'' c ts xs d'/\Mvd W Z' W' Z''):Dr wS w W' Z Z'' c ts xs d':=⟨k.1,h.v.trans k.2⟩
theorem Dr.quiet {wS w W W':World} {Z Z':Zd} {c:Cf} {ts:List Tm} {xs:List Int} {d:Ds} (h:Dr wS w W Z Z' c ts xs d) (k:Fr [] W W'):Dr wS w W' Z Z' c ts xs d:=h.go ⟨h.m.quiet k,Mvd.quiet k⟩
theorem Dr.fin {wS w w0 W W':World} {Z Z':Zd} {c:Cf} {ts:List Tm} {xs:List Int} {d d0:Ds} (h:Dr wS w0 W Z Z' c ts xs d) (hm:DsM wS w Z c ts xs d0) (h0:Fr [] w w0) {rb:Nat} (h1:w.heap.size<=rb) (h2:rb<w0.heap.size) (hf:Fr [rb] W W'):Dr wS w W' Z Z' c ts xs d:=by
 have hn: ∀p,rb∉Z.part p:=fun p hp=>by have:=(hm.pm p).lt rb hp;omega
 have hn':=h.v.not h2 hn
 refine⟨h.m.other hf hn' (Nat.le_trans hm.fr.size h1),?_⟩
 obtain⟨S,sf,sS⟩:=h.v.fr
 have:=h.v.size
 have h0s:=h0.size
 refine⟨⟨S,((h0.mono (by simp)).then sf).trans hf (fun x hx _=>hx) (fun x hx hl=>by simp at hx;omega),sS⟩,fun p b hb=> ?_,h.v.same⟩
 rcases h.v.sub p b hb with h3|h3
 ·exact Or.inl h3
 ·exact Or.inr (by omega)
def DstP (wS w:World) (Z:Zd) (c:Cf) (ts:List Tm) (xs:List Int) (r:(Te×Bool)×Ds) (e:Ending) (w':World):Prop :=
 ∃Z',e= .returned (.tuple #[.agg #[.int .i64 0,.int .u8 r.1.1.k,.int .i64 r.1.1.n,.int .i64 r.1.1.s,.int .i64 r.1.1.c,.int .i64 0],.bool r.1.2])/\Dr wS w w' Z Z' c ts xs r.2
section
variable {wS w w1:World} {Z:Zd} {c:Cf} {ts:List Tm} {xs:List Int} {d:Ds}
theorem DsM.box (h:DsM wS w Z c ts xs d):w.heap[Z.sb]? = some (.cells (dsC c Z d.at_ d.held).toArray 87 (0,0)):=h.pm 0
theorem DsM.held (h:DsM wS w Z c ts xs d) (n:Int):DsM wS (w.setCell ⟨Z.sb,6,none⟩ (.int .i64 n)) Z c ts xs { d with held:=n }/\Mvd w Z (w.setCell ⟨Z.sb,6,none⟩ (.int .i64 n)) Z:=by
 refine h.step [0] 0 (Fr.set (S:=[Z.sb]) w _ _ (by simp)) (fun b hb=>⟨0,by simp,by simpa[Zd.part]using hb⟩) (fun p hp=>⟨rfl,fun hm=> ?_⟩) (fun p hp=> ?_) ⟨rfl,rfl,rfl,rfl,rfl,rfl,rfl⟩
 ·match p,hp,hm with
  | 0,hp,hm=>simp at hp
  | 1,_,hm|2,_,hm|3,_,hm|4,_,hm|5,_,hm|6,_,hm|7,_,hm|n+8,_,hm=>exact hm
 ·have e:p=0:=by simpa using hp
  subst e
  refine⟨?_,fun b hb=>Or.inl hb⟩
  show (w.setCell ⟨Z.sb,6,none⟩ (.int .i64 n)).heap[Z.sb]? = _
  rw[zag _ h.box]
  rfl
theorem DsM.line (h:DsM wS w Z c ts xs d) (q:Sq) (ys:List Int) (hf:Fr (qb Z.ln.lo).toList w w1) (hQ:QR w1 q.lo q.n q.c ys) (hm:Nwr w Z.ln q):DsM wS (w1.setCell ⟨Z.sb,10,none⟩ q.v) { Z with ln:=q } c ts xs { d with line:=ys }/\Mvd w Z (w1.setCell ⟨Z.sb,10,none⟩ q.v) { Z with ln:=q }:=by
 have hlt:Z.sb<w.heap.size:=lt_of_block h.box
 have hne: ∀b,qb Z.ln.lo=some b->b≠Z.sb:=fun b hb=>h.ne0 (p:=5) (by simp[Zd.part,hb]) (by decide)
 have hq: ∀b,qb q.lo=some b->b≠Z.sb:=fun b hb e=>by
  rcases hm with hm|⟨k,hk,hl⟩
  ·exact hne b (by rw[<-hm];exact hb) e
  ·rw[hk]at hb
   cases hb
   omega
 have hbox:=hf.keep h.box (fun hb=>hne Z.sb (by simpa using hb) rfl)
 have hs:Fr [Z.sb] w1 (w1.setCell ⟨Z.sb,10,none⟩ q.v):=Fr.set _ _ _ (by simp)
 refine h.step [0,5] 5 (S:=Z.sb::(qb Z.ln.lo).toList) ((hf.mono (fun x hx _=>List.mem_cons_of_mem _ hx)).then (hs.mono (by simp))) (fun b hb=> ?_) (fun p hp=> ?_) (fun p hp=> ?_) ⟨rfl,rfl,rfl,rfl,rfl,rfl,rfl⟩
 ·rcases List.mem_cons.1 hb with e|e
  ·exact⟨0,by simp,by simp[Zd.part,e]⟩
  ·exact⟨5,by simp,e⟩
 ·match p,hp with
  | 0,hp=>simp at hp
  | 5,hp=>simp at hp
  | 1,_|2,_|3,_|4,_|6,_|7,_|n+8,_=>exact⟨rfl,id⟩
 ·have e:p=0\/p=5:=by simpa using hp
  rcases e with rfl|rfl
  ·refine⟨?_,fun b hb=>Or.inl hb⟩
   show (w1.setCell ⟨Z.sb,10,none⟩ q.v).heap[Z.sb]? = _
   rw[zag _ hbox]
   rfl
  ·refine⟨QR.keep hQ hs (fun b hb=>by simpa using hq b hb),fun b hb=> ?_⟩
   have hb:qb q.lo=some b:=by simpa[Zd.part]using hb
   rcases hm with hm|⟨k,hk,hl⟩
   ·rw[hm]at hb
    exact Or.inl (by simp[Zd.part,hb])
   ·rw[hk]at hb
    cases hb
    exact Or.inr ⟨rfl,hl⟩
theorem DsM.gone (h:DsM wS w Z c ts xs d) (q:Sq) (ys:List Int) (hf:Fr (qb Z.gn.lo).toList w w1) (hQ:QR w1 q.lo q.n q.c ys) (hm:Nwr w Z.gn q):DsM wS (w1.setCell ⟨Z.sb,11,none⟩ q.v) { Z with gn:=q } c ts xs { d with gone:=ys }/\Mvd w Z (w1.setCell ⟨Z.sb,11,none⟩ q.v) { Z with gn:=q }:=by
 have hlt:Z.sb<w.heap.size:=lt_of_block h.box
 have hne: ∀b,qb Z.gn.lo=some b->b≠Z.sb:=fun b hb=>h.ne0 (p:=6) (by simp[Zd.part,hb]) (by decide)
 have hq: ∀b,qb q.lo=some b->b≠Z.sb:=fun b hb e=>by
  rcases hm with hm|⟨k,hk,hl⟩
  ·exact hne b (by rw[<-hm];exact hb) e
  ·rw[hk]at hb
   cases hb
   omega
 have hbox:=hf.keep h.box (fun hb=>hne Z.sb (by simpa using hb) rfl)
 have hs:Fr [Z.sb] w1 (w1.setCell ⟨Z.sb,11,none⟩ q.v):=Fr.set _ _ _ (by simp)
 refine h.step [0,6] 6 (S:=Z.sb::(qb Z.gn.lo).toList) ((hf.mono (fun x hx _=>List.mem_cons_of_mem _ hx)).then (hs.mono (by simp))) (fun b hb=> ?_) (fun p hp=> ?_) (fun p hp=> ?_) ⟨rfl,rfl,rfl,rfl,rfl,rfl,rfl⟩
 ·rcases List.mem_cons.1 hb with e|e
  ·exact⟨0,by simp,by simp[Zd.part,e]⟩
  ·exact⟨6,by simp,e⟩
 ·match p,hp with
  | 0,hp=>simp at hp
  | 6,hp=>simp at hp
  | 1,_|2,_|3,_|4,_|5,_|7,_|n+8,_=>exact⟨rfl,id⟩
 ·have e:p=0\/p=6:=by simpa using hp
  rcases e with rfl|rfl
  ·refine⟨?_,fun b hb=>Or.inl hb⟩
   show (w1.setCell ⟨Z.sb,11,none⟩ q.v).heap[Z.sb]? = _
   rw[zag _ hbox]
   rfl
  ·refine⟨QR.keep hQ hs (fun b hb=>by simpa using hq b hb),fun b hb=> ?_⟩
   have hb:qb q.lo=some b:=by simpa[Zd.part]using hb
   rcases hm with hm|⟨k,hk,hl⟩
   ·rw[hm]at hb
    exact Or.inl (by simp[Zd.part,hb])
   ·rw[hk]at hb
    cases hb
    exact Or.inr ⟨rfl,hl⟩
theorem DsM.calls (h:DsM wS w Z c ts xs d) (q:Sq) (ys:List Dc) (hf:Fr (qb Z.cl.lo).toList w w1) (hQ:QC w1 q.lo q.n q.c ys) (hm:Nwr w Z.cl q):DsM wS (w1.setCell ⟨Z.sb,14,none⟩ q.v) { Z with cl:=q } c ts xs { d with cal:=ys }/\Mvd w Z (w1.setCell ⟨Z.sb,14,none⟩ q.v) { Z with cl:=q }:=by
 have hlt:Z.sb<w.heap.size:=lt_of_block h.box
 have hne: ∀b,qb Z.cl.lo=some b->b≠Z.sb:=fun b hb=>h.ne0 (p:=7) (by simp[Zd.part,hb]) (by decide)
 have hq: ∀b,qb q.lo=some b->b≠Z.sb:=fun b hb e=>by
  rcases hm with hm|⟨k,hk,hl⟩
  ·exact hne b (by rw[<-hm];exact hb) e
  ·rw[hk]at hb
   cases hb
   omega
 have hbox:=hf.keep h.box (fun hb=>hne Z.sb (by simpa using hb) rfl)
 have hs:Fr [Z.sb] w1 (w1.setCell ⟨Z.sb,14,none⟩ q.v):=Fr.set _ _ _ (by simp)
 refine h.step [0,7] 7 (S:=Z.sb::(qb Z.cl.lo).toList) ((hf.mono (fun x hx _=>List.mem_cons_of_mem _ hx)).then (hs.mono (by simp))) (fun b hb=> ?_) (fun p hp=> ?_) (fun p hp=> ?_) ⟨rfl,rfl,rfl,rfl,rfl,rfl,rfl⟩
 ·rcases List.mem_cons.1 hb with e|e
  ·exact⟨0,by simp,by simp[Zd.part,e]⟩
  ·exact⟨7,by simp,e⟩
 ·match p,hp with
  | 0,hp=>simp at hp
  | 7,hp=>simp at hp
  | 1,_|2,_|3,_|4,_|5,_|6,_|n+8,_=>exact⟨rfl,id⟩
 ·have e:p=0\/p=7:=by simpa using hp
  rcases e with rfl|rfl
  ·refine⟨?_,fun b hb=>Or.inl hb⟩
   show (w1.setCell ⟨Z.sb,14,none⟩ q.v).heap[Z.sb]? = _
   rw[zag _ hbox]
   rfl
  ·refine⟨QC.keep hQ hs (fun b hb=>by simpa using hq b hb),fun b hb=> ?_⟩
   have hb:qb q.lo=some b:=by simpa[Zd.part]using hb
   rcases hm with hm|⟨k,hk,hl⟩
   ·rw[hm]at hb
    exact Or.inl (by simp[Zd.part,hb])
   ·rw[hk]at hb
    cases hb
    exact Or.inr ⟨rfl,hl⟩
theorem DsM.tab (h:DsM wS w Z c ts xs d) {RA':List Nat} {L':Lg} {en':Int->Prop} (hf:Fr Z.RA w w1) (hT:Td w1 Z.tb RA' L' en') (hj: ∀j∈RA',j∈Z.RA\/w.heap.size<=j):DsM wS w1 { Z with RA:=RA' } c ts xs { d with L:=L',en:=en' }/\Mvd w Z w1 { Z with RA:=RA' }:=by
 refine h.step [4] 4 hf (fun b hb=>⟨4,by simp,hb⟩) (fun p hp=> ?_) (fun p hp=> ?_) ⟨rfl,rfl,rfl,rfl,rfl,rfl,rfl⟩
 ·match p,hp with
  | 4,hp=>simp at hp
  | 0,_|1,_|2,_|3,_|5,_|6,_|7,_|n+8,_=>exact⟨rfl,id⟩
 ·have e:p=4:=by simpa using hp
  subst e
  exact⟨hT,fun b hb=>(hj b hb).imp id (fun e=>⟨rfl,e⟩)⟩
theorem DsM.gat (h:DsM wS w Z c ts xs d) {lo':Option Addr} {N' c':Nat} {m':Int} {bx':List Int} (hf:Fr [Z.g] w w1) (hO:OG w1 Z.g lo' N' c' m' bx') (hb: ∀b,qb lo'=some b->qb Z.gr.lo=some b\/w.heap.size<=b):DsM wS w1 { Z with gr:=⟨lo',N',c'⟩ } c ts xs { d with ma:=m',bx:=bx' }/\Mvd w Z w1 { Z with gr:=⟨lo',N',c'⟩ }:=by
 refine h.step [1] 1 hf (fun b hb=>⟨1,by simp,by simp only[List.mem_singleton]at hb;simp[Zd.part,hb]⟩) (fun p hp=> ?_) (fun p hp=> ?_) ⟨rfl,rfl,rfl,rfl,rfl,rfl,rfl⟩
 ·match p,hp with
  | 1,hp=>simp at hp
  | 0,_|2,_|3,_|4,_|5,_|6,_|7,_|n+8,_=>exact⟨rfl,id⟩
 ·have e:p=1:=by simpa using hp
  subst e
  refine⟨hO,fun b hb2=> ?_⟩
  have e:b=Z.g\/qb lo'=some b:=by simpa[Zd.part]using hb2
  rcases e with e|e
  ·exact Or.inl (by simp[Zd.part,e])
  ·rcases hb b e with k|k
   ·exact Or.inl (by simp[Zd.part,k])
   ·exact Or.inr ⟨rfl,k⟩
theorem DsM.lans (h:DsM wS w Z c ts xs d) {f:Nat->Dl} (hf:Fr [Z.lb] w w1) (hp2:Pm w1 Z c ts { d with lan:=f } 2):DsM wS w1 Z c ts xs { d with lan:=f }/\Mvd w Z w1 Z:=by
 refine h.step [2] 2 hf (fun b hb=>⟨2,by simp,hb⟩) (fun p hp=> ?_) (fun p hp=> ?_) ⟨rfl,rfl,rfl,rfl,rfl,rfl,rfl⟩
 ·match p,hp with
  | 2,hp=>simp at hp
  | 0,_|1,_|3,_|4,_|5,_|6,_|7,_|n+8,_=>exact⟨rfl,id⟩
 ·have e:p=2:=by simpa using hp
  subst e
  exact⟨hp2,fun b hb=>Or.inl hb⟩
theorem DsM.cals (h:DsM wS w Z c ts xs d) {ys:List Dc} (hf:Fr (qb Z.cl.lo).toList w w1) (hQ:QC w1 Z.cl.lo Z.cl.n Z.cl.c ys):DsM wS w1 Z c ts xs { d with cal:=ys }/\Mvd w Z w1 Z:=by
 refine h.step [7] 7 hf (fun b hb=>⟨7,by simp,hb⟩) (fun p hp=> ?_) (fun p hp=> ?_) ⟨rfl,rfl,rfl,rfl,rfl,rfl,rfl⟩
 ·match p,hp with
  | 7,hp=>simp at hp
  | 0,_|1,_|2,_|3,_|4,_|5,_|6,_|n+8,_=>exact⟨rfl,id⟩
 ·have e:p=7:=by simpa using hp
  subst e
  exact⟨hQ,fun b hb=>Or.inl hb⟩
theorem DsM.queue (h:DsM wS w Z c ts xs d) {k:Nat} (hk:k<c.s.toNat) (q:Sq) (ys:List (Int×Int)) (hf:Fr (qb (Z.q k).lo).toList w w1) (hQ:QW w1 q.lo q.n q.c ys) (hm:Nwr w (Z.q k) q):DsM wS (w1.setCell ⟨Z.qq,k,none⟩ q.v) { Z with q:=upd Z.q k q } c ts xs { d with que:=upd d.que k ys }/\Mvd w Z (w1.setCell ⟨Z.qq,k,none⟩ q.v) { Z with q:=upd Z.q k q }:=by
 obtain⟨cur,q1,q2,q3⟩:=h.pm 3
 have hlt:Z.qq<w.heap.size:=lt_of_block q1
 have hne: ∀b,qb (Z.q k).lo=some b->b≠Z.qq:=fun b hb e=>by
  have:=h.ap (k+8) 3 b (by simp[Zd.part,hb]) (by simp[Zd.part,e])
  omega
 have hq: ∀b,qb q.lo=some b->b≠Z.qq:=fun b hb e=>by
  rcases hm with hm|⟨j,hj,hl⟩
  ·exact hne b (by rw[<-hm];exact hb) e
  ·rw[hj]at hb
   cases hb
   omega
 have hbox:=hf.keep q1 (fun hb=>hne Z.qq (by simpa using hb) rfl)
 have hs:Fr [Z.qq] w1 (w1.setCell ⟨Z.qq,k,none⟩ q.v):=Fr.set _ _ _ (by simp)
 refine h.step [3,k+8] (k+8) (S:=Z.qq::(qb (Z.q k).lo).toList) ((hf.mono (fun x hx _=>List.mem_cons_of_mem _ hx)).then (hs.mono (by simp))) (fun b hb=> ?_) (fun p hp=> ?_) (fun p hp=> ?_) ⟨rfl,rfl,rfl,rfl,rfl,rfl,rfl⟩
 ·rcases List.mem_cons.1 hb with e|e
  ·exact⟨3,by simp,by simp[Zd.part,e]⟩
  ·exact⟨k+8,by simp,e⟩
 ·match p,hp with
  | 3,hp=>simp at hp
  | 0,_|1,_|2,_|4,_|5,_|6,_|7,_=>exact⟨rfl,id⟩
  | n+8,hp =>
   have hn:n≠k:=fun e=>hp (by simp[e])
   have e1:upd Z.q k q n=Z.q n:=zaa _ _ hn
   have e2:upd d.que k ys n=d.que n:=zaa _ _ hn
   refine⟨?_,fun hm=> ?_⟩
   ·show (qb (upd Z.q k q n).lo).toList=(qb (Z.q n).lo).toList
    rw[e1]
   ·show QW _ (upd Z.q k q n).lo (upd Z.q k q n).n (upd Z.q k q n).c (upd d.que k ys n)
    rw[e1,e2]
    exact hm
 ·have e:p=3\/p=k+8:=by simpa using hp
  rcases e with rfl|rfl
  ·refine⟨⟨_,zag _ hbox,by simpa using q2,fun j hj=> ?_⟩,fun b hb=>Or.inl hb⟩
   show (cur.setIfInBounds k q.v)[j]? = some (upd Z.q k q j).v
   by_cases e:j=k
   ·subst e
    rw[zad,Array.getElem?_setIfInBounds_self_of_lt (by omega)]
   ·rw[zaa _ _ e,Array.getElem?_setIfInBounds_ne (fun h=>e h.symm)]
    exact q3 j hj
  ·refine⟨?_,fun b hb=> ?_⟩
   ·show QW _ (upd Z.q k q k).lo (upd Z.q k q k).n (upd Z.q k q k).c (upd d.que k ys k)
    rw[zad,zad]
    exact QW.keep hQ hs (fun b hb=>by simpa using hq b hb)
   ·have hb:qb q.lo=some b:=by
     have:b∈(qb (upd Z.q k q k).lo).toList:=hb
     rw[zad]at this
     simpa using this
    rcases hm with hm|⟨j,hj,hl⟩
    ·rw[hm]at hb
     exact Or.inl (by simp[Zd.part,hb])
    ·rw[hj]at hb
     cases hb
     exact Or.inr ⟨rfl,hl⟩
end
set_option maxHeartbeats 2000000 in
theorem zic (ao:Option Addr) (L cap:Nat) (xs:List Int) (n:Int) (b:Bool) (w:World) (hX:IRs w ao xs) (hL:L=xs.length) (hb:b=true↔n∈xs):Calls Tryz.prog 129 #[.slice ao L cap,.int .i64 n] w fun e w'=>e= .returned (.bool b)/\Fr [] w w':=by
 have HQ:Hid (∀W,Fr [] w W->IRs W ao xs):=fun W hf=>hX.keep hf
 have HN:Hid (L=xs.length):=hL
 have hN:L<=17592186044416:=by rw[hL];exact hX.few
 have HB:Hid (b=true↔n∈xs):=hb
 clear hX hb hL
 go_enter Tryz.func129,Tryz.ntmps129
 go_wp2_with fail
 go_loopw [5] (fun ii wr=> ∃i:Nat,ii= .int .i64 i/\i<=L/\Hid (n∉xs.take i)/\Hid (Fr [] w wr)) (fun ii _=>L-(RowKit.intOf ii).toNat)
 case atStart=>exact⟨0,rfl,Nat.zero_le _,(by simp:n∉xs.take 0),Fr.refl _ _⟩
 case round =>
  obtain⟨i,rfl,hi1,HI,HF⟩:=hrel
  have hq:=HQ.out _ HF.out
  by_cases hi:i<L
  ·have hix:i<xs.length:=by rw[<-HN.out];exact hi
   obtain⟨bb,off,rfl,_,hc⟩:=hq.lies (by omega)
   have hci:=hc i hix
   have HT:=zbm xs i hix
   have hmem:xs.getD i 0∈xs:=by simp[List.getD,hix]
   obtain⟨x,hx⟩: ∃x,x=xs.getD i 0:=⟨_,rfl⟩
   rw[<-hx]at hci HT hmem
   clear hx hq hc hix
   by_cases he:x=n
   ·have hbt:b=true:=HB.out.2 (he▸hmem)
    have hxn:(x==n)=true:=by simpa using he
    subst hbt
    clear he hmem HT
    go_wp2
    go_ret
    exact⟨rfl,HF.out⟩
   ·have hxn:(x==n)=false:=by simpa using he
    have HI2:Hid (n∉xs.take (i+1)):=by
     rw[Hid,HT]
     intro hm
     rcases List.mem_append.1 hm with e|e
     ·exact HI.out e
     ·simp at e;exact he e.symm
    clear he hmem HT
    go_wp2
    go_roundw
    case rel=>exact⟨i+1,by simp,by omega,HI2,HF⟩
    case measure=>simp[RowKit.intOf];omega
  ·have hno:n∉xs:=by
    have:=HI.out
    rwa [List.take_of_length_le (by rw[<-HN.out];omega)]at this
   have hbe:b=false:=by
    cases hbb:b with
    | false=>rfl
    | true=>exact absurd (HB.out.1 hbb) hno
   subst hbe
   clear hno hq HB
   go_wp2
   go_ret
   exact⟨rfl,HF.out⟩
theorem zai {fn:Func} {p u:Tmp} {ty:TypeId} (h:fn.results= #[.cell p ty,.tmp u]) (tmps:Array Value) (P:Program) (w:World) (g:Nat) (v:Value) (hp:tmps.getD p undef= .pointer (some ⟨g,0,none⟩)) (hld:(loadVar ty ⟨g,0,none⟩).run P w= .ok v w) :
  (results fn tmps).run P w= .ok (.tuple #[v,tmps.getD u undef]) w:=by
 simp only[results,h]
 simp[Sem.run_bind,Result.andThen,<-Array.getD_eq_getD_getElem?,hp,asAddr,hld]
section
variable {wS w:World} {Z:Zd} {c:Cf} {ts:List Tm} {xs:List Int} {d:Ds}
theorem DsM.boxed (h:DsM wS w Z c ts xs d): ∃w0 rb,Hid (w.alloc (.cells #[.int .i64 0,.int .u8 0,.int .i64 0,.int .i64 0,.int .i64 0,.int .i64 0] 62)=w0)/\Hid (w.heap.size=rb)/\DsM wS w0 Z c ts xs d/\Hid (∀W W' Z' d',Dr wS w0 W Z Z' c ts xs d'->Fr [rb] W W'->Dr wS w W' Z Z' c ts xs d')/\Hid (∀W Z' d',Dr wS w0 W Z Z' c ts xs d'->W.heap[rb]? = some (.cells (evA 0 0 0 0 0 0) 62 (0,0))):=by
 have hF0:Fr [] w (w.alloc (.cells (evA 0 0 0 0 0 0) 62)):=Fr.alloc _ _ _
 have hb0:(w.alloc (.cells (evA 0 0 0 0 0 0) 62)).heap[w.heap.size]? = some (.cells (evA 0 0 0 0 0 0) 62 (0,0)):=heap_alloc_new _ _
 have hl0:w.heap.size<(w.alloc (.cells (evA 0 0 0 0 0 0) 62)).heap.size:=by simp
 exact⟨_,_,rfl,rfl,h.quiet hF0,fun W W' Z' d' hD hf=>hD.fin h hF0 (Nat.le_refl _) hl0 hf,fun W Z' d' hD=>hD.v.keep hb0 (fun p hp=>by have:=(h.pm p).lt _ hp;omega)⟩
set_option maxHeartbeats 4000000 in
set_option maxRecDepth 100000 in
theorem zor (h:DsM wS w Z c ts xs d) (hl:d.line.length<=1099511627776) (hz: ∀n,(frx d.L d.en n).length<=65536) :
  Calls Tryz.prog 86 #[.pointer (some ⟨Z.sb,0,none⟩)] w (DstP wS w Z c ts xs (gatD d)):=by
 obtain⟨w0,rb,HW0,HRB,h0,HFin,HBox⟩:=h.boxed
 clear h
 cases hR:d.gone with
 | nil =>
  have hQ:QR w0 Z.gn.lo Z.gn.n Z.gn.c d.gone:=h0.pm 6
  have c11:w0.cell? ⟨Z.sb,11,none⟩=some (.slice Z.gn.lo Z.gn.n Z.gn.c):=h0.cell rfl
  have hn:Z.gn.n=0:=by rw[hQ.len,hR];rfl
  rw[hn]at c11
  have HO:Hid (gatD d=((Te.no,false),d)):=by unfold gatD;show (match d.gone with|[]=>_|n::r=>_)=_;rw[hR]
  have HD:Hid (Dr wS w0 w0 Z Z c ts xs d):=h0.dr
  have HB:=HBox.out _ _ _ h0.dr
  clear hQ hn h0 hz hl
  obtain⟨lo,hlo⟩: ∃lo,lo=Z.gn.lo:=⟨_,rfl⟩
  obtain⟨cl,hcl⟩: ∃cl,cl=Z.gn.c:=⟨_,rfl⟩
  obtain⟨sb,hsb⟩: ∃sb,sb=Z.sb:=⟨_,rfl⟩
  rw[<-hlo,<-hcl,<-hsb]at c11
  rw[<-hsb]
  clear hlo hcl hsb
  go_enter Tryz.func86,Tryz.ntmps86
  go_upto_region 1 with fail
  rw[HW0.out,HRB.out]
  go_wp2_with (refine zab rfl _ _ rfl rb 0 0 0 0 0 0 rfl rfl 0 0 0 0 0 0 HB ?_;intro w3 hw3 hf3)
  refine bodyPost_ret (zai rfl _ _ _ rb _ rfl (zae hw3.out)) rfl ?_
  rw[HO.out]
  exact⟨Z,rfl,HFin.out _ _ _ _ HD.out hf3⟩
 | cons n r =>
  have hQ:QR w0 Z.gn.lo Z.gn.n Z.gn.c (n::r):=by rw[<-hR];exact h0.pm 6
  have c11:w0.cell? ⟨Z.sb,11,none⟩=some (.slice Z.gn.lo Z.gn.n Z.gn.c):=h0.cell rfl
  have z11:=h0.fz 11
  obtain⟨gb,off,e1,hx,hc0,hN,hK⟩:=hQ.first
  have hfit:=hQ.fit
  obtain⟨gc,hgc⟩: ∃gc,gc=Z.gn.c:=⟨_,rfl⟩
  obtain⟨so,hso⟩: ∃so,so=(if gc=1 then some (⟨gb,off,none⟩:Addr) else some ⟨gb,off+1,none⟩):=⟨_,rfl⟩
  obtain⟨k1,k2⟩:=hK so (by rw[hso,hgc])
  rw[e1]at c11
  rw[hN,<-hgc]at c11 hfit k1
  rw[<-hgc]at hc0
  rw[Nat.add_sub_cancel]at k1
  have D1:=h0.dr.go (h0.gone (w1:=w0) ⟨so,r.length,gc-1⟩ r (Fr.refl _ _) k1 (Or.inl k2))
  have HO:Hid (gatD d=((⟨8,n,0,(gdx d.ma d.bx n).1⟩,true),{ d with gone:=r,line:=d.line++frx d.L d.en n,en:=enx d.L d.en n,ma:=(gdx d.ma d.bx n).2.1,bx:=(gdx d.ma d.bx n).2.2 })):=by unfold gatD;show (match d.gone with|[]=>_|n::r=>_)=_;rw[hR]
  obtain⟨w1,HW1⟩: ∃w1,Hid (w0.setCell ⟨Z.sb,11,none⟩ (.slice so (r.length) (gc-1))=w1):=⟨_,rfl⟩
  rw[show (Sq.mk so (r.length) (gc-1)).v= .slice so (r.length) (gc-1) from rfl,HW1.out]at D1
  have c8:w1.cell? ⟨Z.sb,8,none⟩=some (.pointer (some ⟨Z.tb,0,none⟩)):=D1.m.cell rfl
  have HT:Hid (Calls _ _ _ _ _):=zxo (show Td w1 Z.tb Z.RA d.L d.en from D1.m.pm 4) n
  have hzn:=hz n
  have H2:Hid (∀W RA',Td W Z.tb RA' d.L (enx d.L d.en n)->(∀j∈RA',j∈Z.RA\/w1.heap.size<=j)->Fr Z.RA w1 W-> ∃Z2:Zd,Z2.ln=Z.ln/\Z2.sb=Z.sb/\Z2.g=Z.g/\Dr wS w0 W Z Z2 c ts xs { d with gone:=r,en:=enx d.L d.en n }/\W.cell? ⟨Z.sb,10,none⟩=some (.slice Z.ln.lo Z.ln.n Z.ln.c)/\QR W Z.ln.lo Z.ln.n Z.ln.c d.line):=by
   intro W RA' hT hj hF
   have D2:=D1.go (D1.m.tab hF hT hj)
   exact⟨{ Z with gn:=⟨so,r.length,gc-1⟩,RA:=RA' },rfl,rfl,rfl,D2,D2.m.cell rfl,D2.m.pm 5⟩
  have H3:Hid (∀W Z2 lo' N' c' W',Z2.ln=Z.ln->Z2.sb=Z.sb->Z2.g=Z.g->Dr wS w0 W Z Z2 c ts xs { d with gone:=r,en:=enx d.L d.en n }->QR W' lo' N' c' (d.line++frx d.L d.en n)->Fr (qb Z.ln.lo).toList W W'->(qb lo'=qb Z.ln.lo\/ ∃k,qb lo'=some k/\W.heap.size<=k)->W'.cell? ⟨Z.sb,10,none⟩=some (.slice Z.ln.lo Z.ln.n Z.ln.c)/\W'.frozen? ⟨Z.sb,10,none⟩=false/\ ∃W4,Hid (W'.setCell ⟨Z.sb,10,none⟩ (.slice lo' N' c')=W4)/\W4.cell? ⟨Z.sb,9,none⟩=some (.pointer (some ⟨Z.g,0,none⟩))/\Hid (Calls Tryz.prog 134 #[.pointer (some ⟨Z.g,0,none⟩),.int .i64 n] W4 fun e w'=> ∃er,e= .returned (.tuple #[.int .i64 (gdx d.ma d.bx n).1,.int .i64 er])/\ ∃Z4,Dr wS w0 w' Z Z4 c ts xs { d with gone:=r,line:=d.line++frx d.L d.en n,en:=enx d.L d.en n,ma:=(gdx d.ma d.bx n).2.1,bx:=(gdx d.ma d.bx n).2.2 })):=by
   intro W Z2 lo' N' c' W' e2 e3 e4 D2 hQ hF hm
   rw[<-e2]at hF hm
   have D3:=D2.go (D2.m.line (w1:=W') ⟨lo',N',c'⟩ _ hF hQ hm)
   have hbx:=hF.keep D2.m.box (fun hb=>D2.m.ne0 (p:=5) (b:=Z2.sb) hb (by decide) rfl)
   rw[e3]at hbx
   refine⟨by rw[cell_of_row _ _ _ _ _ _ hbx,<-e2];rfl,by simp[World.frozen?,hbx],_,rfl,?_,?_⟩
   ·have:=D3.m.cell (j:=9) (v:= .pointer (some ⟨Z2.g,0,none⟩)) rfl
    rw[e4]at this
    rw[<-e3]
    exact this
   ·have hO:OG (W'.setCell ⟨Z.sb,10,none⟩ (.slice lo' N' c')) Z2.g Z2.gr.lo Z2.gr.n Z2.gr.c d.ma d.bx:=by rw[<-e3];exact D3.m.pm 1
    rw[<-e4]
    refine (zzf hO n).mono ?_
    rintro e w' ⟨er,rfl,⟨lo5,N5,c5,hO5,hb5⟩,hF5⟩
    rw[<-e3]at hF5 hb5
    exact⟨er,rfl,_,D3.go (D3.m.gat hF5 hO5 hb5)⟩
  clear hQ hz k1 k2 hK D1 h0 hR
  have HSO:Hid (so=(if gc=1 then some (⟨gb,off,none⟩:Addr) else some ⟨gb,off+1,none⟩)):=hso
  clear e1 hN hgc hso
  go_enter Tryz.func86,Tryz.ntmps86
  go_upto_region 1 with fail
  rw[HW0.out,HRB.out]
  go_upto_region 5 with fail
  rw[<-HSO.out,HW1.out]
  clear HSO
  clear c11 z11 hx HW1
  go_wp2_with fail
  refine Calls.mono HT.out ?_
  rintro e w2 ⟨so2,N2,c2,er,RA',rfl,hI2,hT2,hj2,hF2⟩
  obtain⟨Z2,i1,i2,i3,i4,i5,i6⟩:=H2.out w2 RA' hT2 hj2 hF2
  have HQ2:Hid (QR w2 so2 N2 c2 (frx d.L d.en n)):=QR.of_own hI2
  have HQ1:Hid (QR w2 Z.ln.lo Z.ln.n Z.ln.c d.line):=i6
  have hNl:Z.ln.n+N2<=2199023255552:=by have:=hI2.len;have:=i6.len;omega
  have HK:Hid (∀lo' N' c' W',QR W' lo' N' c' (d.line++frx d.L d.en n)->Fr (qb Z.ln.lo).toList w2 W'->(qb lo'=qb Z.ln.lo\/ ∃k,qb lo'=some k/\w2.heap.size<=k)->_):=fun lo' N' c' W' a1 a2 a3=>H3.out w2 Z2 lo' N' c' W' i1 i2 i3 i4 a1 a2 a3
  clear hI2 hT2 hj2 hF2 i1 i2 i3 i4 i6 H2 H3 HT c8
  go_upto_region 7 with (at_builtin;refine zfm w2 rfl _ _ rfl Z.ln.lo Z.ln.n Z.ln.c d.line so2 N2 c2 (frx d.L d.en n) rfl HQ1.out rfl HQ2.out hNl ?_;intro lo' c' w3 hQ3 hF3 hm3;obtain⟨j1,j2,W4,HW4,j4,HG⟩:=HK.out lo' _ c' w3 hQ3 hF3 hm3;clear hQ3 hF3 hm3)
  rw[HW4.out]
  clear j1 j2 i5
  go_wp2_with fail
  refine Calls.mono HG.out ?_
  rintro e w5 ⟨er5,rfl,Z5,hD5⟩
  have HB:=HBox.out _ _ _ hD5
  have HD5:Hid (Dr _ _ _ _ _ _ _ _ _):=hD5
  clear hD5 j4
  go_wp2_with (refine zab rfl _ _ rfl rb 0 8 n 0 (gdx d.ma d.bx n).1 0 rfl rfl 0 0 0 0 0 0 HB ?_;intro w6 hw6 hf6)
  refine bodyPost_ret (zai rfl _ _ _ rb _ rfl (zae hw6.out)) rfl ?_
  rw[HO.out]
  exact⟨Z5,rfl,HFin.out _ _ _ _ HD5.out hf6⟩
end
end Go.Proofs.YtaaghcimfcjehaaGreatDoor
