/- Contracts and lemmas. -/
import Derived.Test.YtaigdcmoecgabaaGreatGp49
set_option maxRecDepth 100000
namespace Go.Proofs.YtaigdcmoecgabaaGreat
set_option linter.unusedSimpArgs false
set_option linter.unusedVariables false
section
open Go.ChangeShapes Go.WideShapes Go.ChangeAt Go.RowKit Go.Lib
structure Pks(w:World)(ao:Option Addr)(xs:List Int):Prop where
 lies:0<xs.length->∃g off,ao=some ⟨g,off,none⟩/\g<w.heap.size/\∀i,i<xs.length->w.cell? ⟨g,off+i,none⟩=some (.int .i64 (xs.getD i 0))
 few:xs.length<=17592186044416
 each:∀x∈xs,i64 x
theorem Pks.keep{w w':World}{ao:Option Addr}{xs:List Int}(h:Pks w ao xs)(hf:Fr [] w w'):Pks w' ao xs:=by
 refine⟨fun h0=> ?_,h.few,h.each⟩;obtain⟨g,off,e,hg,hc⟩:=h.lies h0;exact⟨g,off,e,Nat.lt_of_lt_of_le hg hf.size,fun i hi=>(World.cell?_of_block (hf.block g hg (by simp))).trans (hc i hi)⟩
def pkI(xs:List Int)(i:Nat):Int:=if i<xs.length then xs.getD i 0 else (i:Int)
theorem zaaz{w:World}{ao:Option Addr}{xs:List Int}(h:Pks w ao xs){i:Nat}(hi:i<=1000000):i64 (pkI xs i):=by
 unfold pkI;split
 .rename_i e;refine h.each _ ?_;rw[show xs.getD i 0=xs[i] by simp[List.getD,e]];exact List.getElem_mem e
 exact⟨by omega,by omega⟩
section
variable{w0 w:World}{g lb L:Nat}{ts:List Tm}{v:Value}{qs:List Nat}
theorem zii(h:F.Src w0 w g lb L ts v qs):Calls Tryz.prog 83 #[.pointer (some ⟨g,0,none⟩)] w fun e w'=>e=.returned (.bool true)/\Fr [] w w':=by
 have HG:Hid (Calls ..):=F.get_no h 0 (Or.inl (by omega)) (by omega);clear h;go_enter Tryz.func83,Tryz.ntmps83;go_wp2_with fail
 refine Calls.mono HG.out ?_;rintro e w1⟨rfl,hf⟩;have HF:Hid (Fr [] w w1):=hf;clear hf;go_wp2;go_ret;exact⟨rfl,HF.out.then (Fr.alloc _ _ _)⟩
end
end
namespace Ap
open Go.ChangeShapes Go.WideShapes Go.ChangeAt Go.RowKit Go.Lib
theorem Pks.of_open{w:World}{a:Addr}{len cap:Nat}{zs:List Int}(hl:len<=cap)(hz:zs.length=cap)(hc:∀i,i<zs.length->w.cell? (a.add i)=some (.int .i64 (zs.getD i 0)))(hb:len<=17592186044416)(he:∀x∈zs,i64 x):Pks w (some a) (zs.take len):=by
 refine⟨fun h0=> ?_,by simp;omega,fun x hx=>he x (List.mem_of_mem_take hx)⟩;rw[List.length_take]at h0
 obtain⟨b,off,spot⟩:=a;have hspot:spot=none:=by simpa[Addr.add]using World.cell?_spot (hc 0 (by omega))
 subst hspot;refine⟨b,off,rfl,?_,fun j hj=> ?_⟩
 .have:=World.block_lt_of_cell? w _ (hc 0 (by omega));simpa[Addr.add]using this
 rw[List.length_take]at hj
 have h1:=hc j (by omega);rw[show (⟨b,off,none⟩:Addr).add j=⟨b,off+j,none⟩ from by simp[Addr.add]]at h1
 rw[h1]
 congr 2
 simp only[List.getD];rw[List.getElem?_take_of_lt (by omega)]
section
variable{H:Type}{enc:TypeId×Value->H}
theorem Tryz.undIs20:Tryz.prog.underlying 28=some (.slice 3):=by kernel_rfl
theorem Tryz.undI20:Tryz.prog.underlying 3=some (.int .i64):=by kernel_rfl
theorem Tryz.cI20:Tryz.prog.cellsOf 3=1:=by kernel_rfl
theorem is20_open{w:World}{fuel:Nat}{v:Value}{x:DataW H×List MemPlace}(h:DataW.trod enc Tryz.prog w 0 (fun _=>true) true fuel 28 [v]=some x)(hsz:∀n∈x.1.weights Tryz.prog 28,n<=reachBytes) :
  ∃ao L cap ns,v=.slice ao L cap/\Pks w ao ns/\L=ns.length/\L<=cap:=by
 rcases open_ints Tryz.undIs20 Tryz.undI20 Tryz.cI20 h with⟨hcs,_⟩|⟨a,l,c,zs,hcs,_,hl,hm,hz,hx,hcell,hwz⟩
 .simp only[List.cons.injEq,and_true]at hcs;exact⟨none,0,0,[],hcs,⟨fun h=>by simp at h,by simp,by simp⟩,rfl,Nat.le_refl _⟩
 simp only[List.cons.injEq,and_true]at hcs;simp only[if_true]at hz;have hw:zs.length*Tryz.prog.bytesOf 3<=reachBytes:=by
  apply hsz;rw[hx];simp only[DataW.weights,Tryz.undIs20,lits,List.length_map];rw[show (zs.take l).length+(zs.drop l).length=zs.length by rw[<-List.length_append,List.take_append_drop]];exact List.mem_cons_self
 rw[show Tryz.prog.bytesOf 3=8 from by kernel_rfl]at hw
 have hr:=reachBytes_lt;exact⟨some a,l,c,zs.take l,hcs,Pks.of_open hl hz hcell (by omega) (fun x hx=>bounds_i64 (hwz x hx)),by rw[List.length_take];omega,by omega⟩
theorem Tryz.cTs20:Tryz.prog.cellsOf 24=1:=by kernel_rfl
end
section
variable{H:Type}{enc:TypeId×Value->H}
theorem Tryz.cellsWorld:Tryz.prog.cellsOf 57=6:=by kernel_rfl
theorem Tryz.worldFields:(match Tryz.prog.underlying 57 with|some (.struct fs)=>fs.toList.map (fun f=>(f.type,f.offset))|_=>[])=[(23,0),(24,4),(3,5)]:=by kernel_rfl
theorem world20_open{w:World}{fuel:Nat}{cs:List Value}{x:DataW H×List MemPlace}(h:DataW.trod enc Tryz.prog w 0 (fun _=>true) true fuel 57 cs=some x)(hsz:∀n∈x.1.weights Tryz.prog 57,n<=reachBytes) :
  ∃(a b c d:Int)(ao:Option Addr)(L cap:Nat)(ts:List Tm)(C:Int),cs=[.int .i64 a,.int .i64 b,.int .i64 c,.int .i64 d,.slice ao L cap,.int .i64 C]/\Cf.ok ⟨a,b,c,d⟩/\TRs w ao ts/\L=ts.length/\L<=cap/\i64 C:=by
 have hF:=Tryz.worldFields;cases hu:Tryz.prog.underlying 57 with
 |none=>rw[hu]at hF;simp at hF
 |some u=>
  rw[hu]at hF
  cases u with
  |struct fs=>
   simp only at hF;obtain⟨ys,n,_,hx,hlen,hys,hf⟩:=DataW.trod_struct hu h;rw[Tryz.cellsWorld]at hlen
   match cs,hlen with
   | [v0,v1,v2,v3,v4,v5],_=>
    have hl5:fs.toList.length=3:=by have:=congrArg List.length hF;simpa using this
    obtain⟨l,hl⟩:∃l,l=fs.toList:=⟨_,rfl⟩;rw[<-hl]at hF hl5
    match l,hl5 with
    | [f0,f1,f2],_=>
     simp only[List.map_cons,List.map_nil,List.cons.injEq,Prod.mk.injEq,and_true]at hF;obtain⟨⟨t0,o0⟩,⟨t1,o1⟩,⟨t2,o2⟩⟩:=hF;have g:∀(i:Nat)(f:Field),[f0,f1,f2][i]? = some f->fs[i]? = some f:=by
      intro i f hi;rw[hl]at hi
      simpa using hi
     have r0:=hf 0 f0 (g 0 f0 rfl);have r1:=hf 1 f1 (g 1 f1 rfl);have r2:=hf 2 f2 (g 2 f2 rfl);rw[t0,o0,Tryz.cellsCf]at r0
     rw[t1,o1,Tryz.cTs20]at r1
     rw[t2,o2,Tryz.cI20]at r2
     simp only[List.drop_zero,List.drop_succ_cons,List.take_succ_cons,List.take_zero]at r0 r1 r2;have hy5:ys.length=3:=by rw[hys];have:=congrArg List.length hl;simpa using this.symm
     match ys,hy5 with
     | [y0,y1,y2],_=>
      simp only[List.getElem?_cons_zero,List.getElem?_cons_succ]at r0 r1 r2;have hty:fs.toList.map (·.type)=[23,24,3]:=by rw[<-hl];simp[t0,t1,t2]
      have hw:∀(j:Nat)(t:TypeId)(d:DataW H),[23,24,3][j]? = some t->[y0.1,y1.1,y2.1][j]? = some d->∀q∈d.weights Tryz.prog t,q<=reachBytes:=fun j t d h1 h2 q hq=>by
       apply hsz;rw[hx];simp only[DataW.weights,hu];rw[hty];exact DataW.weights_mem_each (j:=j) (t:=t) (d:=d) h1 h2 _ hq
      obtain⟨a,b,c,d,e0,hc⟩:=zzd r0;obtain⟨ao,L,cap,ts,e1,hT,hL,hLc⟩:=zabk (d:=y1.1) (ps:=y1.2) r1 (hw 1 24 y1.1 rfl rfl);obtain⟨k0,e2,_,w0⟩:=DataW.trod_int Tryz.undI20 r2;have b0:=bounds_i64 w0;simp only[List.cons.injEq,and_true]at e0 e2;obtain⟨e00,e01,e02,e03⟩:=e0;exact⟨a,b,c,d,ao,L,cap,ts,k0,by rw[e00,e01,e02,e03,e1,e2],hc,hT,hL,hLc,b0⟩
  |_=>simp at hF
end
end Ap
end Go.Proofs.YtaigdcmoecgabaaGreat
