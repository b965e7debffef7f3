/- Contracts and lemmas. -/
import Derived.Test.YtaigdcmoecgabaaGreatGp35
set_option linter.unusedSimpArgs false
set_option linter.unusedVariables false
namespace Go.Proofs.YtaigdcmoecgabaaGreat
open Go.ChangeShapes Go.WideShapes Go.ChangeAt Go.RowKit Go.Lib Go.Maps
section
variable{w0 w w':World}{c:Cf}{T:List Tx}{Z:Lay}{s:Ms}{S:List Nat}
theorem zbk{a b k k':Nat}{o:Nat->Oy}(h:a<=65*k/\b<=k/\∀j,j<c.s.toNat->(o j).n<=k)(hk:k<=k'):a<=65*k'/\b<=k'/\∀j,j<c.s.toNat->(o j).n<=k':=
 ⟨by have:=h.1;omega,by have:=h.2.1;omega,fun j hj=>by have:=h.2.2 j hj;omega⟩
theorem zfq{Z':Lay}{s':Ms}(hm:Mach w0 w' (mP w0 c T Z' s')/\Mx w (mP w0 c T Z s) w' (mP w0 c T Z' s'))(hl:txs Z'.y.ts=T)(hr:s'.d<=Z'.nr)(hf:Z'.nd<=65*s'.k/\Z'.nw<=s'.k/\∀j,j<c.s.toNat->(Z'.o j).n<=s'.k)(hz:Z'.z=Z.z:=by rfl)(hy:Z'.y=Z.y:=by rfl):Dn w0 c T w Z s w' Z' s':=⟨⟨hm.1,hl,hr,hf⟩,hm.2,hz,hy⟩
theorem MaM.setFe(h:MaM w0 w c T Z s)(hf:Fr S w w')(hS:∀b∈S,b<w.heap.size->zep w0 Z.y Z.v Z.hw b){v' hw':Value}{rd fd:Nat}{hv:Bool}(hm:FeM w0 w' c Z.z.fb Z.y v' hw' rd fd hv)(hnew:∀b,zep w0 Z.y v' hw' b->zep w0 Z.y Z.v Z.hw b\/w.heap.size<=b){k:Nat}(hk:s.k<=k) :
  Dn w0 c T w Z s w' {Z with v:=v',hw:=hw'} {s with rd:=rd,fd:=fd,hv:=hv,k:=k}:=by
 refine zfq (h.m.one .fe (feP w0 c Z.z.fb Z.y v' hw' rd fd hv) hf hS (fun j hj=> ?_) rfl (znh _ _ _ _ _ _ _ _ _) hm hnew) h.log h.rows (zbk h.few hk);cases j<;>first|rfl|exact absurd rfl hj
theorem MaM.setDe(h:MaM w0 w c T Z s)(hf:Fr S w w')(hS:∀b∈S,b<w.heap.size->b∈Z.B){B:List Nat}{n d k:Nat}{en:Int->Prop}(hm:Tl w' Z.z.tb B n (lgT T d) en)(hnew:∀b∈B,b∈Z.B\/w.heap.size<=b)(hn:n<=65*k)(hk:s.k<=k)(hd:d<=Z.nr) :
  Dn w0 c T w Z s w' {Z with B:=B,nd:=n} {s with d:=d,en:=en,k:=k}:=by
 have h0:=(h.m.m .de).2;refine zfq (h.m.one .de (deP w0 Z.z.tb B n (lgT T d) en) hf hS (fun j hj=> ?_) rfl (zni _ _ _ _ _ _) ⟨hm,fun b hb=> ?_⟩ hnew) h.log hd (⟨hn,(zbk h.few hk).2⟩)
 .cases j<;>first|rfl|exact absurd rfl hj
 rcases hnew b hb with e|e
 .exact h0 b e
 exact Nat.le_trans h.fr.size e
theorem MaM.offDe(h:MaM w0 w c T Z s)(hf:Fr S w w')(hS:∀b∈S,b<w.heap.size->b∈Z.B){n d k:Nat}{en:Int->Prop}{b:Nat}(hb:w.heap.size<=b):MaM.off w0 w' c T {Z with nd:=n} {s with d:=d,en:=en,k:=k} b:=fun i hi=>by
 have hlt:∀x∈Z.B,x<w.heap.size:=h.de.mine;have old:i≠ .de->(mP w0 c T Z s i).O w' b->False:=fun hne ho=>by
  have:=((h.m.ok i).keep S w w' (h.m.m i) h.m.fr hf fun x hx hl=>⟨(h.m.m .de).2 x (hS x hx hl),fun h3=>hne (h.m.ap i .de x h3 (hS x hx hl))⟩).2 b ho;have:=((h.m.ok i).lt w b (h.m.m i) this).2;omega
 cases i with
 |de=>have:=hlt b hi;omega
 |_=>exact old (by simp) hi
theorem MaM.setGa(h:MaM w0 w c T Z s)(hf:Fr [Z.z.gb] w w'){ma:Int}{bx:List Int}{k:Nat}(hm:GG w' Z.z.gb ma bx)(hk:s.k<=k):Dn w0 c T w Z s w' Z {s with ma:=ma,bx:=bx,k:=k}:=by
 refine zfq (h.m.one .ga (gaP w0 Z.z.gb ma bx) hf (fun b hb _=>List.mem_singleton.1 hb) (fun j hj=> ?_) rfl (znj _ _ _ _) ⟨hm,(h.m.m .ga).2⟩ (fun b hb=>Or.inl hb)) h.log h.rows (zbk h.few hk);cases j<;>first|rfl|exact absurd rfl hj
theorem MaM.setWa(h:MaM w0 w c T Z s)(hf:Fr [Z.z.wb] w w'){wt:Int->Prop}{n k:Nat}(hm:MapG kTx w' Z.z.wb n (wtF T Z.kb wt))(hn:n<=k)(hk:s.k<=k):Dn w0 c T w Z s w' {Z with nw:=n} {s with wt:=wt,k:=k}:=by
 refine zfq (h.m.one .wa (waP w0 Z.z.wb n T Z.kb wt) hf (fun b hb _=>List.mem_singleton.1 hb) (fun j hj=> ?_) rfl (znk _ _ _ _ _ _) ⟨hm,(h.m.m .wa).2⟩ (fun b hb=>Or.inl hb)) h.log h.rows (⟨(zbk h.few hk).1,hn,(zbk h.few hk).2.2⟩);cases j<;>first|rfl|exact absurd rfl hj
theorem MaM.setLi(h:MaM w0 w c T Z s){p':Option Nat}(hf:Fr (GT.Rg.own Z.z.lr Z.lp) w w'){line:List Int}{k:Nat}(hm:GT.Rg w' Z.z.lr p' c.w.toNat (line.map (txR T Z.kb)) false)(hp:GT.Mv w.heap.size Z.lp p')(hk:s.k<=k):Dn w0 c T w Z s w' {Z with lp:=p'} {s with line:=line,k:=k}:=by
 have h0:=(h.m.m .li).2;have hnew:∀b∈GT.Rg.own Z.z.lr p',b∈GT.Rg.own Z.z.lr Z.lp\/w.heap.size<=b:=fun b hb=>by
  simp only[GT.Rg.own,List.mem_cons,Option.mem_toList]at hb ⊢;rcases hb with rfl|hb
  .exact Or.inl (Or.inl rfl)
  rcases hp with e|⟨k',e,hk'⟩
  .rw[e]at hb;exact Or.inl (Or.inr hb)
  rw[e]at hb;cases hb;exact Or.inr hk'
 refine zfq (h.m.one .li (liP w0 Z.z.lr p' c.w.toNat T Z.kb line) hf (fun b hb _=>hb) (fun j hj=> ?_) rfl (znl _ _ _ _ _ _ _) ⟨hm,fun b hb=> ?_⟩ hnew) h.log h.rows (zbk h.few hk)
 .cases j<;>first|rfl|exact absurd rfl hj
 rcases hnew b hb with e|e
 .exact h0 b e
 exact Nat.le_trans h.fr.size e
theorem MaM.setPa(h:MaM w0 w c T Z s){p':Option Nat}(hf:Fr (GI.Rg.own Z.z.pr Z.pp) w w'){pass:List Int}{k:Nat}(hm:GI.Rg w' Z.z.pr p' c.w.toNat pass false)(hp:GI.Mv w.heap.size Z.pp p')(hk:s.k<=k):Dn w0 c T w Z s w' {Z with pp:=p'} {s with pass:=pass,k:=k}:=by
 have h0:=(h.m.m .pa).2;have hnew:∀b∈GI.Rg.own Z.z.pr p',b∈GI.Rg.own Z.z.pr Z.pp\/w.heap.size<=b:=fun b hb=>by
  simp only[GI.Rg.own,List.mem_cons,Option.mem_toList]at hb ⊢;rcases hb with rfl|hb
  .exact Or.inl (Or.inl rfl)
  rcases hp with e|⟨k',e,hk'⟩
  .rw[e]at hb;exact Or.inl (Or.inr hb)
  rw[e]at hb;cases hb;exact Or.inr hk'
 refine zfq (h.m.one .pa (paP w0 Z.z.pr p' c.w.toNat pass) hf (fun b hb _=>hb) (fun j hj=> ?_) rfl (znm _ _ _ _ _) ⟨hm,fun b hb=> ?_⟩ hnew) h.log h.rows (zbk h.few hk)
 .cases j<;>first|rfl|exact absurd rfl hj
 rcases hnew b hb with e|e
 .exact h0 b e
 exact Nat.le_trans h.fr.size e
theorem MaM.setLa(h:MaM w0 w c T Z s){i:Nat}(hi:i<c.l.toNat)(hf:Fr S w w')(hS:∀b∈S,b<w.heap.size->b=Z.z.la i\/b∈Z.S i){st:Option Hl}{S':List Nat}{k:Nat}(hm:LnM w' (Z.z.la i) ((i+1:Nat):Int) c.l c.s c.w c.q st S')(hnew:∀b∈S',b∈Z.S i\/(w.heap.size<=b/\b<w'.heap.size))(hk:s.k<=k) :
  Dn w0 c T w Z s w' {Z with S:=upd Z.S i S'} {s with ln:=upd s.ln i st,k:=k}:=by
 have h0:=(h.la' hi).2;refine zfq (h.m.one (.la i) (lnP w0 c (Z.z.la i) i st S') hf (fun b hb hl=> ?_) (fun j hj=> ?_) ?_ (znn _ _ _ _ _ _) ⟨hm,fun b hb=> ?_⟩ (fun b hb=> ?_)) h.log h.rows (zbk h.few hk)
 .rw[zlz hi];exact hS b hb hl
 .cases j with
  |la i'=>
   have hne:i'≠i:=fun e=>hj (by rw[e]);simp only[mP,zac _ _ hne]
  |_=>rfl
 .rw[zlz hi];simp only[zae]
 .rcases hb with rfl|hb
  .exact⟨(h0 _ (Or.inl rfl)).1,Nat.lt_of_lt_of_le (h0 _ (Or.inl rfl)).2 hf.size⟩
  rcases hnew b hb with e|⟨e1,e2⟩
  .exact⟨(h0 b (Or.inr e)).1,Nat.lt_of_lt_of_le (h0 b (Or.inr e)).2 hf.size⟩
  exact⟨Nat.le_trans h.fr.size e1,e2⟩
 rw[zlz hi];rcases hb with rfl|hb
 .exact Or.inl (Or.inl rfl)
 exact (hnew b hb).imp Or.inr fun e=>e.1
theorem MaM.setOw(h:MaM w0 w c T Z s){j:Nat}(hj:j<c.s.toNat)(hf:Fr S w w')(hS:∀b∈S,b<w.heap.size->(owP w0 c (Z.z.ob j) (Z.o j) (s.M j) (s.qs j)).O w b){Y:Oy}{M:ByteArray->List O.Vn}{q:List Qe}{k:Nat}(hm:(owP w0 c (Z.z.ob j) Y M q).M w')(hnew:∀b,(owP w0 c (Z.z.ob j) Y M q).O w' b->(owP w0 c (Z.z.ob j) (Z.o j) (s.M j) (s.qs j)).O w b\/w.heap.size<=b)(hn:Y.n<=k)(hk:s.k<=k) :
  Dn w0 c T w Z s w' {Z with o:=fun i=>if i=j then Y else Z.o i} {s with M:=upd s.M j M,qs:=upd s.qs j q,k:=k}:=by
 refine zfq (h.m.one (.ow j) (owP w0 c (Z.z.ob j) Y M q) hf (fun b hb hl=> ?_) (fun i hi=> ?_) ?_ (zno _ _ _ _ _ _) hm (fun b hb=> ?_)) h.log h.rows (⟨(zbk h.few hk).1,(zbk h.few hk).2.1,fun i hi=> ?_⟩)
 .rw[zma hj];exact hS b hb hl
 .cases i with
  |ow i'=>
   have hne:i'≠j:=fun e=>hi (by rw[e]);simp only[mP,zac _ _ hne,if_neg hne]
  |_=>rfl
 .rw[zma hj];simp only[zae,if_pos rfl];rfl
 .rw[zma hj];exact hnew b hb
 show (if i=j then Y else Z.o i).n<=k;split
 .exact hn
 exact (zbk h.few hk).2.2 i hi
theorem MaM.steps(h:MaM w0 w c T Z s){k:Nat}(hk:s.k<=k):MaM w0 w c T Z {s with k:=k}:=by
 refine⟨?_,h.log,h.rows,zbk h.few hk⟩;have e:mP w0 c T Z {s with k:=k}=mP w0 c T Z s:=by funext i;cases i<;>rfl
 rw[e];exact h.m
end
def evV(t k n sh ct m:Int):Value:=.agg #[.int .i64 t,.int .u8 k,.int .i64 n,.int .i64 sh,.int .i64 ct,.int .i64 m]
theorem zach(t k n sh ct m:Int):(#[Value.int .i64 t,.int .u8 k,.int .i64 n,.int .i64 sh,.int .i64 ct,.int .i64 m]:Array Value).all (·.oneCell')=true:=by simp[Value.oneCell']
theorem zbr{w:World}{g:Nat}{t k n sh ct m:Int}(h:w.heap[g]? = some (.cells #[.int .i64 t,.int .u8 k,.int .i64 n,.int .i64 sh,.int .i64 ct,.int .i64 m] 40 (0,0))):(loadVar 40 ⟨g,0,none⟩).run Tryz.prog w=.ok (evV t k n sh ct m) w:=
 run_loadVar_row (P:=Tryz.prog) _ g _ 40 _ _ (.struct (Tryz.prog.fieldsOf 40)) h (by kernel_rfl) rfl (by kernel_rfl)
theorem zax{fn:Func}{p:Tmp}{ty:TypeId}(h:fn.results= #[.cell p ty])(tmps:Array Value)(P:Program)(w:World)(g:Nat)(v:Value)(hp:tmps.getD p undef=.pointer (some ⟨g,0,none⟩))(hld:(loadVar ty ⟨g,0,none⟩).run P w=.ok v w) :
  (results fn tmps).run P w=.ok v w:=by
 simp only[results,h];simp[Sem.run_bind,Result.andThen,<-Array.getD_eq_getD_getElem?,hp,asAddr,hld]
theorem zag{w:World}{ops:Array Oper}{rest:List Oper}{o:Oper}{a:Act}{Q:Exit->Act->World->Prop}(hgd:o.guard=none)(x y:Operand)(ho:o.op=.store 40 x y)(g:Nat)(t k n sh ct m:Int)(hx:a.eval x=.pointer (some ⟨g,0,none⟩))(hy:a.eval y=.agg #[.int .i64 t,.int .u8 k,.int .i64 n,.int .i64 sh,.int .i64 ct,.int .i64 m])(t0 k0 n0 sh0 ct0 m0:Int)(hg:w.heap[g]? = some (.cells #[.int .i64 t0,.int .u8 k0,.int .i64 n0,.int .i64 sh0,.int .i64 ct0,.int .i64 m0] 40 (0,0)))(h:∀w',Hid (w'.heap[g]? = some (.cells #[.int .i64 t,.int .u8 k,.int .i64 n,.int .i64 sh,.int .i64 ct,.int .i64 m] 40 (0,0)))->Fr [g] w w'->wpList Tryz.prog ops Q rest (a.put o.dst undef) w'):wpList Tryz.prog ops Q (o::rest) a w:=
 wpList_store_row hgd 40 x y ho g _ hx hy 40 _ hg (by kernel_rfl) rfl (zach t k n sh ct m) (h _ (setRow_heap w g _ _ _ _ hg) (Fr.setRow _ _ _))
section
variable{w0 w w':World}{c:Cf}{T:List Tx}{Z:Lay}{s:Ms}
structure Bx(w0:World)(c:Cf)(T:List Tx)(w1:World)(Z:Lay)(s:Ms)(A:Nat):Prop where
 box:w1.heap[A]? = some (.cells #[.int .i64 0,.int .u8 0,.int .i64 0,.int .i64 0,.int .i64 0,.int .i64 0] 40 (0,0))
 off:MaM.off w0 w1 c T Z s A
theorem Bx.new(h:MaM w0 w c T Z s):Bx w0 c T (w.alloc (.cells #[.int .i64 0,.int .u8 0,.int .i64 0,.int .i64 0,.int .i64 0,.int .i64 0] 40)) Z s w.heap.size:=
 ⟨heap_alloc_new _ _,h.otherO (S:=[]) (Fr.alloc [] _ _) (by simp) (h.offNew (Nat.le_refl _))⟩
theorem Bx.then{A:Nat}{Z':Lay}{s':Ms}(h:Bx w0 c T w Z s A)(k:Dn w0 c T w Z s w' Z' s'):Bx w0 c T w' Z' s' A:=⟨k.keep h.box h.off,k.off (lt_of_block h.box) h.off⟩
def StP(w0:World)(c:Cf)(T:List Tx)(w:World)(Z:Lay)(s:Ms)(n sh ct:Int)(s':Ms)(e:Ending)(w':World):Prop:=e=.returned (evV 0 0 n sh ct 0)/\∃Z',Dn w0 c T w Z s w' Z' s'/\Z'.nr=s'.d
theorem Dn.steps{Z':Lay}{s':Ms}(h:Dn w0 c T w Z s w' Z' s'){k:Nat}(hk:s'.k<=k):Dn w0 c T w Z s w' Z' {s' with k:=k}:=by
 have e:mP w0 c T Z' {s' with k:=k}=mP w0 c T Z' s':=by funext i;cases i<;>rfl
 exact⟨h.m.steps hk,by rw[e];exact h.x,h.z,h.y⟩
theorem Dn.offNew{Z':Lay}{s':Ms}{W:World}(h:Dn w0 c T w Z s w' Z' s')(hf:Fr [] w' W){b:Nat}(hb:w'.heap.size<=b):MaM.off w0 W c T Z' s' b:=h.m.otherO (S:=[]) hf (by simp) (h.m.offNew hb)
theorem Dn.mc{Z':Lay}{s':Ms}(h:Dn w0 c T w Z s w' Z' s'){j:Nat}{v:Value}(hv:(mC c Z.z)[j]? = some v):w'.cell? ⟨Z.z.mb,j,none⟩=some v:=by
 have:=h.m.mc (j:=j) (v:=v) (by rw[h.z];exact hv);rw[h.z]at this
 exact this
theorem Dn.kwc{Z':Lay}{s':Ms}(h:Dn w0 c T w Z s w' Z' s'){i:Nat}(hi:i<c.l.toNat):w'.cell? ⟨Z.z.kw i,0,none⟩=some (.pointer (some ⟨Z.z.mb,0,none⟩))/\w'.cell? ⟨Z.z.kw i,2,none⟩=some (.pointer (some ⟨Z.z.la i,0,none⟩)):=by
 have:=h.m.kwc hi;rw[h.z]at this
 exact⟨this.1,this.2.2⟩
theorem Dn.fin{w1 w9:World}{A:Nat}{Z':Lay}{s':Ms}(k:Dn w0 c T w1 Z s w9 Z' s')(h:MaM w0 w c T Z s)(h1:Fr [] w w1)(hA:w.heap.size<=A)(hB:Bx w0 c T w1 Z s A)(hf:Fr [A] w9 w'):Dn w0 c T w Z s w' Z' s':=by
 have hb9:=hB.then k;have h0:w0.heap.size<=A:=Nat.le_trans h.fr.size hA;have hS:∀b∈[A],w0.heap.size<=b/\MaM.off w0 w9 c T Z' s' b:=fun b hb=>by rw[List.mem_singleton.1 hb];exact⟨h0,hb9.off⟩
 have back:∀i b,(mP w0 c T Z s i).O w1 b->(mP w0 c T Z s i).O w b:=fun i b hb=>((h.m.ok i).keep [] w w1 (h.m.m i) h.m.fr h1 (by simp)).2 b hb;have hx:=k.x.from h1 fun i b hb=>Or.inl (back i b hb);refine⟨k.m.other hf hS,⟨?_,fun i b hb=> ?_⟩,k.z,k.y⟩
 .obtain⟨S,sf,sS⟩:=hx.fr;refine⟨S,sf.trans hf (fun x hx _=>hx) (fun x hx hl=> ?_),sS⟩;rw[List.mem_singleton.1 hx]at hl
  omega
 have hk:=((k.m.m.ok i).keep [A] w9 w' (k.m.m.m i) k.m.m.fr hf fun b hb hl=>⟨(hS b hb).1,(hS b hb).2 i⟩).2 b hb;exact hx.sub i b hk
theorem zjl{l:List Int}{a q:Int}(hn:l.Nodup)(h:∀x∈l,a<x/\x<=a+q):l.length<=q.toNat:=by
 have:=znp l ((List.range q.toNat).map fun(i:Nat)=>a+1+(i:Int)) hn (fun x hx=>by
  have:=h x hx;refine List.mem_map.2 ⟨(x-a-1).toNat,List.mem_range.2 (by omega),by omega⟩)
 simpa using this
end
section
variable{w0 w w':World}{c:Cf}{T:List Tx}{Z:Lay}{s:Ms}
theorem zaci{α:Type}(f:Nat->α)(i:Nat):upd f i (f i)=f:=by
 funext j
 by_cases h:j=i
 .subst h;rw[zae]
 rw[zac _ _ h]
theorem ztw{w:World}{ob sb b g:Nat}{pb:Option Nat}{j:Nat}(h:O.OM w b g pb j):O.OwnA ob sb b g pb w j:=by
 rcases h with h|h|h|⟨_,h⟩
 .exact Or.inr (Or.inr (Or.inr (Or.inl h)))
 .exact Or.inr (Or.inr (Or.inr (Or.inr (Or.inl h))))
 .exact Or.inr (Or.inr (Or.inl h))
 exact Or.inr (Or.inr (Or.inr (Or.inr (Or.inr h))))
theorem zwn(h:MaM w0 w c T Z s){j:Nat}(hj:j<c.s.toNat)(f n:Int)(y:Wt)(hf:1<=f/\f<=16)(hn:1<=n/\n<=65536)(hy:okW y)(hroom:((s.qs j).length:Int)<c.q) :
  Calls Tryz.prog 276 #[.pointer (some ⟨Z.z.ob j,0,none⟩),.agg #[.int .u8 1,.int .i64 f,.int .i64 n,.string y.key,.string y.val,.bool y.drop,.string ⟨#[]⟩,.string ⟨#[]⟩,.slice none 0 0]] w fun e w'=>e=.returned (.tuple #[.bool true,.int .i64 0])/\∃Z',Dn w0 c T w Z s w' Z' {s with qs:=upd s.qs j (s.qs j++[⟨f,n,y⟩])}/\Z'.nr=Z.nr:=by
 have how:=h.ow hj;have hbb:=(h.ow' hj).2;have hq:=h.may.2.2.2;have h1:=how.at (t':=fun k=>¬(Z.o j).BB k/\k<w.heap.size) (fun k hk=>Or.inl hk.1);have hok:O.okR (O.Rv.q ⟨1,f,n,y.key,y.val,y.drop,⟨#[]⟩,⟨#[]⟩,none,0,0⟩ []):=by
  refine⟨by show f≠0;omega,by show 0<=n;omega,by show n<=65536;omega,Or.inl ⟨rfl,⟨rfl,rfl⟩,rfl,by show 0<f;omega,by show 0<n;omega,⟨hy.1,hy.2.1⟩,hy.2.2.1,?_⟩⟩;show y.val.size=0\/y.drop=false;cases e:y.drop
  .exact Or.inr rfl
  exact Or.inl (by rw[hy.2.2.2 e];rfl)
 refine (O.os_ask h1 (fun k hk=>hk.2) ⟨1,f,n,y.key,y.val,y.drop,⟨#[]⟩,⟨#[]⟩,none,0,0⟩ [] ⟨⟨by show (0:Int)<=1;omega,by show (1:Int)<=255;omega⟩,⟨by show _<=f;omega,by show f<=_;omega⟩,⟨by show _<=n;omega,by show n<=_;omega⟩,by have:=hy.2.1;show y.key.size<=_;omega,by have:=hy.2.2.1;show y.val.size<=_;omega,by show (0:Nat)<=_;omega,by show (0:Nat)<=_;omega,⟨fun h=>absurd h (by simp),by simp⟩,rfl,Nat.le_refl _⟩).mono ?_;rintro e w' (⟨k1,_⟩|⟨_,k1,_⟩|⟨_,_,rfl,pb',k1,⟨S,sf,sS⟩,k3⟩)
 .exact absurd hok k1
 .rw[List.length_map]at k1;omega
 have hbl:=how.sh.bl;obtain⟨sO,sR⟩:=sS hbl;have hs:w.heap.size<=w'.heap.size:=sf.size
 let Y:Oy:=⟨(Z.o j).sb,(Z.o j).b,(Z.o j).g,pb',fun k=>(Z.o j).BB k\/(w.heap.size<=k/\k<w'.heap.size),(Z.o j).n⟩
 have hD:=h.setOw (Y:=Y) (M:=s.M j) (q:=s.qs j++[⟨f,n,y⟩]) (k:=s.k) hj sf (fun b hb hl=>Or.inl (ztw (sO b hb hl))) ⟨?_,fun k hk=> ?_⟩ (fun b hb=> ?_) (h.few.2.2 j hj) (Nat.le_refl _)
 .rw[zaci]at hD
  exact⟨rfl,_,hD,rfl⟩
 .have e:(s.qs j++[(⟨f,n,y⟩:Qe)]).map Qe.rq=(s.qs j).map Qe.rq++[O.Rv.q ⟨1,f,n,y.key,y.val,y.drop,⟨#[]⟩,⟨#[]⟩,none,0,0⟩ []]:=by rw[List.map_append];rfl
  rw[e];exact k1.at fun k hk=>by
   by_cases e:k<w.heap.size
   .exact Or.inl ⟨fun x=>hk (Or.inl x),e⟩
   refine Or.inr ?_;apply Classical.byContradiction;intro e2;exact hk (Or.inr ⟨by omega,by omega⟩)
 .rcases hk with hk|hk
  .exact⟨(hbb k hk).1,Nat.lt_of_lt_of_le (hbb k hk).2 hs⟩
  exact⟨Nat.le_trans h.fr.size hk.1,hk.2⟩
 rcases hb with hb|hb|hb
 .rcases hb with e|e|e|e|e|e
  .exact Or.inl (Or.inl (Or.inl e))
  .exact Or.inl (Or.inl (Or.inr (Or.inl e)))
  .exact Or.inl (Or.inl (Or.inr (Or.inr (Or.inl e))))
  .exact Or.inl (Or.inl (Or.inr (Or.inr (Or.inr (Or.inl e)))))
  .exact (k3 b e).imp (fun x=>Or.inl (Or.inr (Or.inr (Or.inr (Or.inr (Or.inl x)))))) id
  exact (sR b e).imp (fun x=>Or.inl (Or.inr (Or.inr (Or.inr (Or.inr (Or.inr x)))))) id
 .exact Or.inl (Or.inr hb)
 exact Or.inr hb.1
theorem zrj(h:MaM w0 w c T Z s){j:Nat}(hj:j<c.s.toNat){e:Qe}{r:List Qe}(hq:s.qs j=e::r)(hn:1<=e.n/\e.n<=65536)(hy:okW e.x)(hno:∀v∈s.M j e.x.key,v.num≠e.n)(hk:s.k<16000000) :
  Calls Tryz.prog 304 #[.pointer (some ⟨Z.z.ob j,0,none⟩)] w fun e' w'=>e'=.returned (.tuple #[.agg #[.int .i64 e.f,.bool true,.slice none 0 0,.slice none 0 0,.int .i64 0],.int .i64 0])/\∃M' Z',O.PutM (s.M j) e.x.key ⟨e.n,e.x.val,e.x.drop⟩ M' true/\Dn w0 c T w Z s w' Z' {s with M:=upd s.M j M',qs:=upd s.qs j r,k:=s.k+1}/\Z'.nr=Z.nr:=by
 have how:=h.ow hj;have hbb:=(h.ow' hj).2;have hfew:=h.few.2.2 j hj;rw[hq]at how
 refine (O.os_serve (r:=e.rq) (rs:=r.map Qe.rq) how rfl (by omega)).mono ?_;rintro e' w'⟨ok,eo,el,ec,ho,hl,hc,cc,M',rfl,k1,⟨S,sf,sS⟩,k3⟩;have hbl:=how.sh.bl;obtain⟨sO,sR⟩:=sS hbl;have hs:w.heap.size<=w'.heap.size:=sf.size;obtain⟨⟨rfl,rfl,rfl⟩,⟨rfl,rfl,rfl⟩,rfl,d,hT⟩:=k3;have hput:ok=true/\O.PutM (s.M j) e.x.key ⟨e.n,e.x.val,e.x.drop⟩ M' true:=by
  rcases hT with⟨_,_,hno',_⟩|⟨_,_,hp⟩
  .exact absurd (show O.okP ⟨e.n,e.x.key,e.x.val,e.x.drop⟩ from ⟨⟨hy.1,hy.2.1⟩,hn.1,hn.2,hy.2.2.1,hy.2.2.2⟩) hno'
  rcases id hp with⟨_,_,v,hv,hvn⟩|⟨e1,_⟩
  .exact absurd hvn (hno v hv)
  rw[e1]at hp;exact⟨e1,hp⟩
 obtain⟨rfl,hput⟩:=hput
 let Y:Oy:=⟨(Z.o j).sb,(Z.o j).b,(Z.o j).g,(Z.o j).pb,(Z.o j).BB,(Z.o j).n+1⟩
 have hD:=h.setOw (Y:=Y) (M:=M') (q:=r) (k:=s.k+1) hj sf (fun b hb hl=>Or.inl (ztw (sO b hb hl))) ⟨k1,fun k hk=>⟨(hbb k hk).1,Nat.lt_of_lt_of_le (hbb k hk).2 hs⟩⟩ (fun b hb=> ?_) (by show (Z.o j).n+1<=s.k+1;omega) (Nat.le_succ _)
 .exact⟨rfl,M',_,hput,hD,rfl⟩
 rcases hb with hb|hb
 .rcases hb with e|e|e|e|e|e
  .exact Or.inl (Or.inl (Or.inl e))
  .exact Or.inl (Or.inl (Or.inr (Or.inl e)))
  .exact Or.inl (Or.inl (Or.inr (Or.inr (Or.inl e))))
  .exact Or.inl (Or.inl (Or.inr (Or.inr (Or.inr (Or.inl e)))))
  .exact Or.inl (Or.inl (Or.inr (Or.inr (Or.inr (Or.inr (Or.inl e))))))
  exact (sR b e).imp (fun x=>Or.inl (Or.inr (Or.inr (Or.inr (Or.inr (Or.inr x)))))) id
 exact Or.inl (Or.inr hb)
end
end Go.Proofs.YtaigdcmoecgabaaGreat
