/- Contracts and lemmas. -/
import Derived.Test.YtojjdnjfaelnfaaGreatDoorGp32
set_option maxHeartbeats 4000000
set_option maxRecDepth 100000
set_option linter.unusedSimpArgs false
set_option linter.unusedVariables false
namespace Go.Proofs.YtojjdnjfaelnfaaGreatDoor
open Go.ChangeShapes Go.WideShapes Go.ChangeAt Go.RowKit Go.Lib Go.Maps Go.Proofs.Tryz
section
variable{w0 w w':World}{c:Cf}{T:List Tx}{Z:Lay}{s:Ms}{S:List Nat}
theorem zbu{a b k k':Nat}{o:Nat->Oy}(h:a<=65*k/\b<=k/\∀j,j<c.s.toNat->(o j).n<=k)(hk:k<=k'):a<=65*k'/\b<=k'/\∀j,j<c.s.toNat->(o j).n<=k':=
 ⟨by have:=h.1;omega,by have:=h.2.1;omega,fun j hj=>by have:=h.2.2 j hj;omega⟩
theorem zga{Z':Lay}{s':Ms}(hm:Mach w0 w' (mP w0 c T Z' s')/\Mx w (mP w0 c T Z s) w' (mP w0 c T Z' s'))(hl:txs Z'.y.ts=T)(hr:s'.d<=Z'.nr)(hf:Z'.nd<=65*s'.k/\Z'.nw<=s'.k/\∀j,j<c.s.toNat->(Z'.o j).n<=s'.k)(hz:Z'.z=Z.z:=by rfl)(hy:Z'.y=Z.y:=by rfl):Dn w0 c T w Z s w' Z' s':=⟨⟨hm.1,hl,hr,hf⟩,hm.2,hz,hy⟩
theorem MaM.setFe(h:MaM w0 w c T Z s)(hf:Fr S w w')(hS:∀b∈S,b<w.heap.size->zey w0 Z.y Z.v Z.hw b){v' hw':Value}{rd fd:Nat}{hv:Bool}(hm:FeM w0 w' c Z.z.fb Z.y v' hw' rd fd hv)(hnew:∀b,zey w0 Z.y v' hw' b->zey w0 Z.y Z.v Z.hw b\/w.heap.size<=b){k:Nat}(hk:s.k<=k) :
  Dn w0 c T w Z s w' {Z with v:=v',hw:=hw'} {s with rd:=rd,fd:=fd,hv:=hv,k:=k}:=by
 refine zga (h.m.one .fe (feP w0 c Z.z.fb Z.y v' hw' rd fd hv) hf hS (fun j hj=> ?_) rfl (zqn _ _ _ _ _ _ _ _ _) hm hnew) h.log h.rows (zbu h.few hk);cases j<;>first|rfl|exact absurd rfl hj
theorem MaM.setDe(h:MaM w0 w c T Z s)(hf:Fr S w w')(hS:∀b∈S,b<w.heap.size->b∈Z.B){B:List Nat}{n d k:Nat}{en:Int->Prop}(hm:Tl w' Z.z.tb B n (lgT T d) en)(hnew:∀b∈B,b∈Z.B\/w.heap.size<=b)(hn:n<=65*k)(hk:s.k<=k)(hd:d<=Z.nr) :
  Dn w0 c T w Z s w' {Z with B:=B,nd:=n} {s with d:=d,en:=en,k:=k}:=by
 have h0:=(h.m.m .de).2;refine zga (h.m.one .de (deP w0 Z.z.tb B n (lgT T d) en) hf hS (fun j hj=> ?_) rfl (zqo _ _ _ _ _ _) ⟨hm,fun b hb=> ?_⟩ hnew) h.log hd (⟨hn,(zbu h.few hk).2⟩)
 .cases j<;>first|rfl|exact absurd rfl hj
 rcases hnew b hb with e|e
 .exact h0 b e
 exact Nat.le_trans h.fr.size e
theorem MaM.offDe(h:MaM w0 w c T Z s)(hf:Fr S w w')(hS:∀b∈S,b<w.heap.size->b∈Z.B){n d k:Nat}{en:Int->Prop}{b:Nat}(hb:w.heap.size<=b):MaM.off w0 w' c T {Z with nd:=n} {s with d:=d,en:=en,k:=k} b:=fun i hi=>by
 have hlt:∀x∈Z.B,x<w.heap.size:=h.de.mine;have old:i≠ .de->(mP w0 c T Z s i).O w' b->False:=fun hne ho=>by
  have:=((h.m.ok i).keep S w w' (h.m.m i) h.m.fr hf fun x hx hl=>⟨(h.m.m .de).2 x (hS x hx hl),fun h3=>hne (h.m.ap i .de x h3 (hS x hx hl))⟩).2 b ho;have:=((h.m.ok i).lt w b (h.m.m i) this).2;omega
 cases i with
 |de=>have:=hlt b hi;omega
 |_=>exact old (by simp) hi
theorem MaM.setGa(h:MaM w0 w c T Z s)(hf:Fr [Z.z.gb] w w'){ma:Int}{bx:List Int}{k:Nat}(hm:GG w' Z.z.gb ma bx)(hk:s.k<=k):Dn w0 c T w Z s w' Z {s with ma:=ma,bx:=bx,k:=k}:=by
 refine zga (h.m.one .ga (gaP w0 Z.z.gb ma bx) hf (fun b hb _=>List.mem_singleton.1 hb) (fun j hj=> ?_) rfl (zqp _ _ _ _) ⟨hm,(h.m.m .ga).2⟩ (fun b hb=>Or.inl hb)) h.log h.rows (zbu h.few hk);cases j<;>first|rfl|exact absurd rfl hj
theorem MaM.setWa(h:MaM w0 w c T Z s)(hf:Fr [Z.z.wb] w w'){wt:Int->Prop}{n k:Nat}(hm:MapG kTx w' Z.z.wb n (wtF T Z.kb wt))(hn:n<=k)(hk:s.k<=k):Dn w0 c T w Z s w' {Z with nw:=n} {s with wt:=wt,k:=k}:=by
 refine zga (h.m.one .wa (waP w0 Z.z.wb n T Z.kb wt) hf (fun b hb _=>List.mem_singleton.1 hb) (fun j hj=> ?_) rfl (zqq _ _ _ _ _ _) ⟨hm,(h.m.m .wa).2⟩ (fun b hb=>Or.inl hb)) h.log h.rows (⟨(zbu h.few hk).1,hn,(zbu h.few hk).2.2⟩);cases j<;>first|rfl|exact absurd rfl hj
theorem MaM.setLi(h:MaM w0 w c T Z s){p':Option Nat}(hf:Fr (GT.Rg.own Z.z.lr Z.lp) w w'){line:List Int}{k:Nat}(hm:GT.Rg w' Z.z.lr p' c.w.toNat (line.map (txR T Z.kb)) false)(hp:GT.Mv w.heap.size Z.lp p')(hk:s.k<=k):Dn w0 c T w Z s w' {Z with lp:=p'} {s with line:=line,k:=k}:=by
 have h0:=(h.m.m .li).2;have hnew:∀b∈GT.Rg.own Z.z.lr p',b∈GT.Rg.own Z.z.lr Z.lp\/w.heap.size<=b:=fun b hb=>by
  simp only[GT.Rg.own,List.mem_cons,Option.mem_toList]at hb ⊢;rcases hb with rfl|hb
  .exact Or.inl (Or.inl rfl)
  rcases hp with e|⟨k',e,hk'⟩
  .rw[e]at hb;exact Or.inl (Or.inr hb)
  rw[e]at hb;cases hb;exact Or.inr hk'
 refine zga (h.m.one .li (liP w0 Z.z.lr p' c.w.toNat T Z.kb line) hf (fun b hb _=>hb) (fun j hj=> ?_) rfl (zqr _ _ _ _ _ _ _) ⟨hm,fun b hb=> ?_⟩ hnew) h.log h.rows (zbu h.few hk)
 .cases j<;>first|rfl|exact absurd rfl hj
 rcases hnew b hb with e|e
 .exact h0 b e
 exact Nat.le_trans h.fr.size e
theorem MaM.setPa(h:MaM w0 w c T Z s){p':Option Nat}(hf:Fr (GI.Rg.own Z.z.pr Z.pp) w w'){pass:List Int}{k:Nat}(hm:GI.Rg w' Z.z.pr p' c.w.toNat pass false)(hp:GI.Mv w.heap.size Z.pp p')(hk:s.k<=k):Dn w0 c T w Z s w' {Z with pp:=p'} {s with pass:=pass,k:=k}:=by
 have h0:=(h.m.m .pa).2;have hnew:∀b∈GI.Rg.own Z.z.pr p',b∈GI.Rg.own Z.z.pr Z.pp\/w.heap.size<=b:=fun b hb=>by
  simp only[GI.Rg.own,List.mem_cons,Option.mem_toList]at hb ⊢;rcases hb with rfl|hb
  .exact Or.inl (Or.inl rfl)
  rcases hp with e|⟨k',e,hk'⟩
  .rw[e]at hb;exact Or.inl (Or.inr hb)
  rw[e]at hb;cases hb;exact Or.inr hk'
 refine zga (h.m.one .pa (paP w0 Z.z.pr p' c.w.toNat pass) hf (fun b hb _=>hb) (fun j hj=> ?_) rfl (zqs _ _ _ _ _) ⟨hm,fun b hb=> ?_⟩ hnew) h.log h.rows (zbu h.few hk)
 .cases j<;>first|rfl|exact absurd rfl hj
 rcases hnew b hb with e|e
 .exact h0 b e
 exact Nat.le_trans h.fr.size e
theorem MaM.setLa(h:MaM w0 w c T Z s){i:Nat}(hi:i<c.l.toNat)(hf:Fr S w w')(hS:∀b∈S,b<w.heap.size->b=Z.z.la i\/b∈Z.S i){st:Option Hl}{S':List Nat}{k:Nat}(hm:LnM w' (Z.z.la i) ((i+1:Nat):Int) c.l c.s c.w c.q st S')(hnew:∀b∈S',b∈Z.S i\/(w.heap.size<=b/\b<w'.heap.size))(hk:s.k<=k) :
  Dn w0 c T w Z s w' {Z with S:=upd Z.S i S'} {s with ln:=upd s.ln i st,k:=k}:=by
 have h0:=(h.la' hi).2;refine zga (h.m.one (.la i) (lnP w0 c (Z.z.la i) i st S') hf (fun b hb hl=> ?_) (fun j hj=> ?_) ?_ (zqt _ _ _ _ _ _) ⟨hm,fun b hb=> ?_⟩ (fun b hb=> ?_)) h.log h.rows (zbu h.few hk)
 .rw[zpb hi];exact hS b hb hl
 .cases j with
  |la i'=>
   have hne:i'≠i:=fun e=>hj (by rw[e]);simp only[mP,zac _ _ hne]
  |_=>rfl
 .rw[zpb hi];simp only[zad]
 .rcases hb with rfl|hb
  .exact⟨(h0 _ (Or.inl rfl)).1,Nat.lt_of_lt_of_le (h0 _ (Or.inl rfl)).2 hf.size⟩
  rcases hnew b hb with e|⟨e1,e2⟩
  .exact⟨(h0 b (Or.inr e)).1,Nat.lt_of_lt_of_le (h0 b (Or.inr e)).2 hf.size⟩
  exact⟨Nat.le_trans h.fr.size e1,e2⟩
 rw[zpb hi];rcases hb with rfl|hb
 .exact Or.inl (Or.inl rfl)
 exact (hnew b hb).imp Or.inr fun e=>e.1
theorem MaM.setOw(h:MaM w0 w c T Z s){j:Nat}(hj:j<c.s.toNat)(hf:Fr S w w')(hS:∀b∈S,b<w.heap.size->(owP w0 c (Z.z.ob j) (Z.o j) (s.M j) (s.qs j)).O w b){Y:Oy}{M:ByteArray->List O.Vn}{q:List Qe}{k:Nat}(hm:(owP w0 c (Z.z.ob j) Y M q).M w')(hnew:∀b,(owP w0 c (Z.z.ob j) Y M q).O w' b->(owP w0 c (Z.z.ob j) (Z.o j) (s.M j) (s.qs j)).O w b\/w.heap.size<=b)(hn:Y.n<=k)(hk:s.k<=k) :
  Dn w0 c T w Z s w' {Z with o:=fun i=>if i=j then Y else Z.o i} {s with M:=upd s.M j M,qs:=upd s.qs j q,k:=k}:=by
 refine zga (h.m.one (.ow j) (owP w0 c (Z.z.ob j) Y M q) hf (fun b hb hl=> ?_) (fun i hi=> ?_) ?_ (zqu _ _ _ _ _ _) hm (fun b hb=> ?_)) h.log h.rows (⟨(zbu h.few hk).1,(zbu h.few hk).2.1,fun i hi=> ?_⟩)
 .rw[zpc hj];exact hS b hb hl
 .cases i with
  |ow i'=>
   have hne:i'≠j:=fun e=>hi (by rw[e]);simp only[mP,zac _ _ hne,if_neg hne]
  |_=>rfl
 .rw[zpc hj];simp only[zad,if_pos rfl];rfl
 .rw[zpc hj];exact hnew b hb
 show (if i=j then Y else Z.o i).n<=k;split
 .exact hn
 exact (zbu h.few hk).2.2 i hi
theorem MaM.steps(h:MaM w0 w c T Z s){k:Nat}(hk:s.k<=k):MaM w0 w c T Z {s with k:=k}:=by
 refine⟨?_,h.log,h.rows,zbu h.few hk⟩;have e:mP w0 c T Z {s with k:=k}=mP w0 c T Z s:=by funext i;cases i<;>rfl
 rw[e];exact h.m
end
def evV(t k n sh ct m:Int):Value:=.agg #[.int .i64 t,.int .u8 k,.int .i64 n,.int .i64 sh,.int .i64 ct,.int .i64 m]
theorem zaim(t k n sh ct m:Int):(#[Value.int .i64 t,.int .u8 k,.int .i64 n,.int .i64 sh,.int .i64 ct,.int .i64 m]:Array Value).all (·.oneCell')=true:=by simp[Value.oneCell']
theorem zcs{w:World}{g:Nat}{t k n sh ct m:Int}(h:w.heap[g]? = some (.cells #[.int .i64 t,.int .u8 k,.int .i64 n,.int .i64 sh,.int .i64 ct,.int .i64 m] 62 (0,0))):(loadVar 62 ⟨g,0,none⟩).run prog w=.ok (evV t k n sh ct m) w:=
 run_loadVar_row (P:=prog) _ g _ 62 _ _ (.struct (prog.fieldsOf 62)) h (by kernel_rfl) rfl (by kernel_rfl)
theorem zba{fn:Func}{p:Tmp}{ty:TypeId}(h:fn.results= #[.cell p ty])(tmps:Array Value)(P:Program)(w:World)(g:Nat)(v:Value)(hp:tmps.getD p undef=.pointer (some ⟨g,0,none⟩))(hld:(loadVar ty ⟨g,0,none⟩).run P w=.ok v w) :
  (results fn tmps).run P w=.ok v w:=by
 simp only[results,h];simp[Sem.run_bind,Result.andThen,<-Array.getD_eq_getD_getElem?,hp,asAddr,hld]
theorem zak{w:World}{ops:Array Oper}{rest:List Oper}{o:Oper}{a:Act}{Q:Exit->Act->World->Prop}(hgd:o.guard=none)(x y:Operand)(ho:o.op=.store 62 x y)(g:Nat)(t k n sh ct m:Int)(hx:a.eval x=.pointer (some ⟨g,0,none⟩))(hy:a.eval y=.agg #[.int .i64 t,.int .u8 k,.int .i64 n,.int .i64 sh,.int .i64 ct,.int .i64 m])(t0 k0 n0 sh0 ct0 m0:Int)(hg:w.heap[g]? = some (.cells #[.int .i64 t0,.int .u8 k0,.int .i64 n0,.int .i64 sh0,.int .i64 ct0,.int .i64 m0] 62 (0,0)))(h:∀w',Hid (w'.heap[g]? = some (.cells #[.int .i64 t,.int .u8 k,.int .i64 n,.int .i64 sh,.int .i64 ct,.int .i64 m] 62 (0,0)))->Fr [g] w w'->wpList prog ops Q rest (a.put o.dst undef) w'):wpList prog ops Q (o::rest) a w:=
 wpList_store_row hgd 62 x y ho g _ hx hy 62 _ hg (by kernel_rfl) rfl (zaim t k n sh ct m) (h _ (setRow_heap w g _ _ _ _ hg) (Fr.setRow _ _ _))
section
variable{w0 w w':World}{c:Cf}{T:List Tx}{Z:Lay}{s:Ms}
structure Bx(w0:World)(c:Cf)(T:List Tx)(w1:World)(Z:Lay)(s:Ms)(A:Nat):Prop where
 box:w1.heap[A]? = some (.cells #[.int .i64 0,.int .u8 0,.int .i64 0,.int .i64 0,.int .i64 0,.int .i64 0] 62 (0,0))
 off:MaM.off w0 w1 c T Z s A
theorem Bx.new(h:MaM w0 w c T Z s):Bx w0 c T (w.alloc (.cells #[.int .i64 0,.int .u8 0,.int .i64 0,.int .i64 0,.int .i64 0,.int .i64 0] 62)) Z s w.heap.size:=
 ⟨heap_alloc_new _ _,h.otherO (S:=[]) (Fr.alloc [] _ _) (by simp) (h.offNew (Nat.le_refl _))⟩
theorem Bx.then{A:Nat}{Z':Lay}{s':Ms}(h:Bx w0 c T w Z s A)(k:Dn w0 c T w Z s w' Z' s'):Bx w0 c T w' Z' s' A:=⟨k.keep h.box h.off,k.off (lt_of_block h.box) h.off⟩
def StP(w0:World)(c:Cf)(T:List Tx)(w:World)(Z:Lay)(s:Ms)(n sh ct:Int)(s':Ms)(e:Ending)(w':World):Prop:=e=.returned (evV 0 0 n sh ct 0)/\∃Z',Dn w0 c T w Z s w' Z' s'/\Z'.nr=s'.d
theorem Dn.steps{Z':Lay}{s':Ms}(h:Dn w0 c T w Z s w' Z' s'){k:Nat}(hk:s'.k<=k):Dn w0 c T w Z s w' Z' {s' with k:=k}:=by
 have e:mP w0 c T Z' {s' with k:=k}=mP w0 c T Z' s':=by funext i;cases i<;>rfl
 exact⟨h.m.steps hk,by rw[e];exact h.x,h.z,h.y⟩
theorem Dn.offNew{Z':Lay}{s':Ms}{W:World}(h:Dn w0 c T w Z s w' Z' s')(hf:Fr [] w' W){b:Nat}(hb:w'.heap.size<=b):MaM.off w0 W c T Z' s' b:=h.m.otherO (S:=[]) hf (by simp) (h.m.offNew hb)
theorem Dn.mc{Z':Lay}{s':Ms}(h:Dn w0 c T w Z s w' Z' s'){j:Nat}{v:Value}(hv:(mC c Z.z)[j]? = some v):w'.cell? ⟨Z.z.mb,j,none⟩=some v:=by
 have:=h.m.mc (j:=j) (v:=v) (by rw[h.z];exact hv);rw[h.z]at this
 exact this
theorem Dn.kwc{Z':Lay}{s':Ms}(h:Dn w0 c T w Z s w' Z' s'){i:Nat}(hi:i<c.l.toNat):w'.cell? ⟨Z.z.kw i,0,none⟩=some (.pointer (some ⟨Z.z.mb,0,none⟩))/\w'.cell? ⟨Z.z.kw i,2,none⟩=some (.pointer (some ⟨Z.z.la i,0,none⟩)):=by
 have:=h.m.kwc hi;rw[h.z]at this
 exact⟨this.1,this.2.2⟩
theorem Dn.fin{w1 w9:World}{A:Nat}{Z':Lay}{s':Ms}(k:Dn w0 c T w1 Z s w9 Z' s')(h:MaM w0 w c T Z s)(h1:Fr [] w w1)(hA:w.heap.size<=A)(hB:Bx w0 c T w1 Z s A)(hf:Fr [A] w9 w'):Dn w0 c T w Z s w' Z' s':=by
 have hb9:=hB.then k;have h0:w0.heap.size<=A:=Nat.le_trans h.fr.size hA;have hS:∀b∈[A],w0.heap.size<=b/\MaM.off w0 w9 c T Z' s' b:=fun b hb=>by rw[List.mem_singleton.1 hb];exact⟨h0,hb9.off⟩
 have back:∀i b,(mP w0 c T Z s i).O w1 b->(mP w0 c T Z s i).O w b:=fun i b hb=>((h.m.ok i).keep [] w w1 (h.m.m i) h.m.fr h1 (by simp)).2 b hb;have hx:=k.x.from h1 fun i b hb=>Or.inl (back i b hb);refine⟨k.m.other hf hS,⟨?_,fun i b hb=> ?_⟩,k.z,k.y⟩
 .obtain⟨S,sf,sS⟩:=hx.fr;refine⟨S,sf.trans hf (fun x hx _=>hx) (fun x hx hl=> ?_),sS⟩;rw[List.mem_singleton.1 hx]at hl
  omega
 have hk:=((k.m.m.ok i).keep [A] w9 w' (k.m.m.m i) k.m.m.fr hf fun b hb hl=>⟨(hS b hb).1,(hS b hb).2 i⟩).2 b hb;exact hx.sub i b hk
theorem zkq{l:List Int}{a q:Int}(hn:l.Nodup)(h:∀x∈l,a<x/\x<=a+q):l.length<=q.toNat:=by
 have:=zhw l ((List.range q.toNat).map fun(i:Nat)=>a+1+(i:Int)) hn (fun x hx=>by
  have:=h x hx;refine List.mem_map.2 ⟨(x-a-1).toNat,List.mem_range.2 (by omega),by omega⟩)
 simpa using this
end
section
variable{w0 w w':World}{c:Cf}{T:List Tx}{Z:Lay}{s:Ms}
theorem zain{α:Type}(f:Nat->α)(i:Nat):upd f i (f i)=f:=by
 funext j
 by_cases h:j=i
 .subst h;rw[zad]
 rw[zac _ _ h]
theorem zyt{w:World}{ob sb b g:Nat}{pb:Option Nat}{j:Nat}(h:O.OM w b g pb j):O.OwnA ob sb b g pb w j:=by
 rcases h with h|h|h|⟨_,h⟩
 .exact Or.inr (Or.inr (Or.inr (Or.inl h)))
 .exact Or.inr (Or.inr (Or.inr (Or.inr (Or.inl h))))
 .exact Or.inr (Or.inr (Or.inl h))
 exact Or.inr (Or.inr (Or.inr (Or.inr (Or.inr h))))
theorem zabr(h:MaM w0 w c T Z s){j:Nat}(hj:j<c.s.toNat)(f n:Int)(y:Wt)(hf:1<=f/\f<=16)(hn:1<=n/\n<=65536)(hy:okW y)(hroom:((s.qs j).length:Int)<c.q) :
  Calls prog 296 #[.pointer (some ⟨Z.z.ob j,0,none⟩),.agg #[.int .u8 1,.int .i64 f,.int .i64 n,.string y.key,.string y.val,.bool y.drop,.string ⟨#[]⟩,.string ⟨#[]⟩,.slice none 0 0]] w fun e w'=>e=.returned (.tuple #[.bool true,.int .i64 0])/\∃Z',Dn w0 c T w Z s w' Z' {s with qs:=upd s.qs j (s.qs j++[⟨f,n,y⟩])}/\Z'.nr=Z.nr:=by
 have how:=h.ow hj;have hbb:=(h.ow' hj).2;have hq:=h.may.2.2.2;have h1:=how.at (t':=fun k=>¬(Z.o j).BB k/\k<w.heap.size) (fun k hk=>Or.inl hk.1);have hok:O.okR (O.Rv.q ⟨1,f,n,y.key,y.val,y.drop,⟨#[]⟩,⟨#[]⟩,none,0,0⟩ []):=by
  refine⟨by show f≠0;omega,by show 0<=n;omega,by show n<=65536;omega,Or.inl ⟨rfl,⟨rfl,rfl⟩,rfl,by show 0<f;omega,by show 0<n;omega,⟨hy.1,hy.2.1⟩,hy.2.2.1,?_⟩⟩;show y.val.size=0\/y.drop=false;cases e:y.drop
  .exact Or.inr rfl
  exact Or.inl (by rw[hy.2.2.2 e];rfl)
 refine (O.os_ask h1 (fun k hk=>hk.2) ⟨1,f,n,y.key,y.val,y.drop,⟨#[]⟩,⟨#[]⟩,none,0,0⟩ [] ⟨⟨by show (0:Int)<=1;omega,by show (1:Int)<=255;omega⟩,⟨by show _<=f;omega,by show f<=_;omega⟩,⟨by show _<=n;omega,by show n<=_;omega⟩,by have:=hy.2.1;show y.key.size<=_;omega,by have:=hy.2.2.1;show y.val.size<=_;omega,by show (0:Nat)<=_;omega,by show (0:Nat)<=_;omega,⟨fun h=>absurd h (by simp),by simp⟩,rfl,Nat.le_refl _⟩).mono ?_;rintro e w' (⟨k1,_⟩|⟨_,k1,_⟩|⟨_,_,rfl,pb',k1,⟨S,sf,sS⟩,k3⟩)
 .exact absurd hok k1
 .rw[List.length_map]at k1;omega
 have hbl:=how.sh.bl;obtain⟨sO,sR⟩:=sS hbl;have hs:w.heap.size<=w'.heap.size:=sf.size
 let Y:Oy:=⟨(Z.o j).sb,(Z.o j).b,(Z.o j).g,pb',fun k=>(Z.o j).BB k\/(w.heap.size<=k/\k<w'.heap.size),(Z.o j).n⟩
 have hD:=h.setOw (Y:=Y) (M:=s.M j) (q:=s.qs j++[⟨f,n,y⟩]) (k:=s.k) hj sf (fun b hb hl=>Or.inl (zyt (sO b hb hl))) ⟨?_,fun k hk=> ?_⟩ (fun b hb=> ?_) (h.few.2.2 j hj) (Nat.le_refl _)
 .rw[zain]at hD
  exact⟨rfl,_,hD,rfl⟩
 .have e:(s.qs j++[(⟨f,n,y⟩:Qe)]).map Qe.rq=(s.qs j).map Qe.rq++[O.Rv.q ⟨1,f,n,y.key,y.val,y.drop,⟨#[]⟩,⟨#[]⟩,none,0,0⟩ []]:=by rw[List.map_append];rfl
  rw[e];exact k1.at fun k hk=>by
   by_cases e:k<w.heap.size
   .exact Or.inl ⟨fun x=>hk (Or.inl x),e⟩
   refine Or.inr ?_;apply Classical.byContradiction;intro e2;exact hk (Or.inr ⟨by omega,by omega⟩)
 .rcases hk with hk|hk
  .exact⟨(hbb k hk).1,Nat.lt_of_lt_of_le (hbb k hk).2 hs⟩
  exact⟨Nat.le_trans h.fr.size hk.1,hk.2⟩
 rcases hb with hb|hb|hb
 .rcases hb with e|e|e|e|e|e
  .exact Or.inl (Or.inl (Or.inl e))
  .exact Or.inl (Or.inl (Or.inr (Or.inl e)))
  .exact Or.inl (Or.inl (Or.inr (Or.inr (Or.inl e))))
  .exact Or.inl (Or.inl (Or.inr (Or.inr (Or.inr (Or.inl e)))))
  .exact (k3 b e).imp (fun x=>Or.inl (Or.inr (Or.inr (Or.inr (Or.inr (Or.inl x)))))) id
  exact (sR b e).imp (fun x=>Or.inl (Or.inr (Or.inr (Or.inr (Or.inr (Or.inr x)))))) id
 .exact Or.inl (Or.inr hb)
 exact Or.inr hb.1
theorem zvv(h:MaM w0 w c T Z s){j:Nat}(hj:j<c.s.toNat){e:Qe}{r:List Qe}(hq:s.qs j=e::r)(hn:1<=e.n/\e.n<=65536)(hy:okW e.x)(hno:∀v∈s.M j e.x.key,v.num≠e.n)(hk:s.k<16000000) :
  Calls prog 324 #[.pointer (some ⟨Z.z.ob j,0,none⟩)] w fun e' w'=>e'=.returned (.tuple #[.agg #[.int .i64 e.f,.bool true,.slice none 0 0,.slice none 0 0,.int .i64 0],.int .i64 0])/\∃M' Z',O.PutM (s.M j) e.x.key ⟨e.n,e.x.val,e.x.drop⟩ M' true/\Dn w0 c T w Z s w' Z' {s with M:=upd s.M j M',qs:=upd s.qs j r,k:=s.k+1}/\Z'.nr=Z.nr:=by
 have how:=h.ow hj;have hbb:=(h.ow' hj).2;have hfew:=h.few.2.2 j hj;rw[hq]at how
 refine (O.os_serve (r:=e.rq) (rs:=r.map Qe.rq) how rfl (by omega)).mono ?_;rintro e' w'⟨ok,eo,el,ec,ho,hl,hc,cc,M',rfl,k1,⟨S,sf,sS⟩,k3⟩;have hbl:=how.sh.bl;obtain⟨sO,sR⟩:=sS hbl;have hs:w.heap.size<=w'.heap.size:=sf.size;obtain⟨⟨rfl,rfl,rfl⟩,⟨rfl,rfl,rfl⟩,rfl,d,hT⟩:=k3;have hput:ok=true/\O.PutM (s.M j) e.x.key ⟨e.n,e.x.val,e.x.drop⟩ M' true:=by
  rcases hT with⟨_,_,hno',_⟩|⟨_,_,hp⟩
  .exact absurd (show O.okP ⟨e.n,e.x.key,e.x.val,e.x.drop⟩ from ⟨⟨hy.1,hy.2.1⟩,hn.1,hn.2,hy.2.2.1,hy.2.2.2⟩) hno'
  rcases id hp with⟨_,_,v,hv,hvn⟩|⟨e1,_⟩
  .exact absurd hvn (hno v hv)
  rw[e1]at hp;exact⟨e1,hp⟩
 obtain⟨rfl,hput⟩:=hput
 let Y:Oy:=⟨(Z.o j).sb,(Z.o j).b,(Z.o j).g,(Z.o j).pb,(Z.o j).BB,(Z.o j).n+1⟩
 have hD:=h.setOw (Y:=Y) (M:=M') (q:=r) (k:=s.k+1) hj sf (fun b hb hl=>Or.inl (zyt (sO b hb hl))) ⟨k1,fun k hk=>⟨(hbb k hk).1,Nat.lt_of_lt_of_le (hbb k hk).2 hs⟩⟩ (fun b hb=> ?_) (by show (Z.o j).n+1<=s.k+1;omega) (Nat.le_succ _)
 .exact⟨rfl,M',_,hput,hD,rfl⟩
 rcases hb with hb|hb
 .rcases hb with e|e|e|e|e|e
  .exact Or.inl (Or.inl (Or.inl e))
  .exact Or.inl (Or.inl (Or.inr (Or.inl e)))
  .exact Or.inl (Or.inl (Or.inr (Or.inr (Or.inl e))))
  .exact Or.inl (Or.inl (Or.inr (Or.inr (Or.inr (Or.inl e)))))
  .exact Or.inl (Or.inl (Or.inr (Or.inr (Or.inr (Or.inr (Or.inl e))))))
  exact (sR b e).imp (fun x=>Or.inl (Or.inr (Or.inr (Or.inr (Or.inr (Or.inr x)))))) id
 exact Or.inl (Or.inr hb)
end
section
variable{w0 w w':World}{c:Cf}{T:List Tx}{Z:Lay}{s:Ms}
theorem zabv(T:List Tx)(kb:Int->Nat)(wt:Int->Prop)(n:Int):updF (wtF T kb wt) n none=wtF T kb (fun m=>wt m/\m≠n):=by
 funext m
 by_cases e:m=n
 .subst e;rw[zae];unfold wtF;rw[if_neg (fun x=>x.2 rfl)]
 rw[zab _ _ e];unfold wtF;by_cases hm:wt m
 .rw[if_pos hm,if_pos ⟨hm,e⟩]
 rw[if_neg hm,if_neg (fun x=>hm x.1)]
theorem zadq(T:List Tx)(kb:Int->Nat)(n:Int):(txR T kb n).v=tx3V (some (n,kb n,(wsAt T n).length)):=rfl
def zlq(w0:World)(c:Cf)(T:List Tx)(w:World)(Z:Lay)(s:Ms)(n:Int)(w':World):Prop:=∃p',Dn w0 c T w Z s w' {Z with lp:=p'} {s with line:=s.line++[n],wt:=fun m=>s.wt m/\m≠n}
theorem znv(h:MaM w0 w c T Z s){n:Int}(hi:i64 n)(hn:s.wt n)(hroom:s.line.length<c.w.toNat):Calls prog 277 #[.pointer (some ⟨Z.z.mb,0,none⟩),.int .i64 n] w fun e w'=>(∃v,e=.returned v)/\zlq w0 c T w Z s n w':=by
 have c7:∀q,(w.drewN q).cell? ⟨Z.z.mb,7,none⟩=some (.map (some Z.z.wb)):=fun q=>h.mc rfl;have c8:w.cell? ⟨Z.z.mb,8,none⟩=some (.pointer (some ⟨Z.z.lr,0,none⟩)):=h.mc rfl;have c70:w.cell? ⟨Z.z.mb,7,none⟩=some (.map (some Z.z.wb)):=h.mc rfl;obtain⟨K,hK⟩:∃K,(wsAt T n).length=K:=⟨_,rfl⟩;obtain⟨B,hB⟩:∃B,Z.kb n=B:=⟨_,rfl⟩;have hF:wtF T Z.kb s.wt n=some (some (n,B,K)):=by unfold wtF;rw[if_pos hn,hB,hK]
 have hlk:∀W,Fr [] w W->(Instr.lookup 161 (.map (some Z.z.wb)) (.int .i64 n) false).run prog W=.ok (.agg #[.int .i64 n,.slice (some ⟨B,0,none⟩) K K]) W:=fun W hf=>by
  have:=(h.quiet hf).wa.look n hi;rw[hF]at this
  exact this
 have hlkw:=hlk w (Fr.refl _ _);have hlkd:∀q,(Instr.lookup 161 (.map (some Z.z.wb)) (.int .i64 n) false).run prog (w.drewN q)=.ok (.agg #[.int .i64 n,.slice (some ⟨B,0,none⟩) K K]) (w.drewN q):=fun q=>hlk _ (Fr.drewN _ _ _);have hlk1:(Instr.lookup 161 (.map (some Z.z.wb)) (.int .i64 n) false).run prog w.drew=.ok (.agg #[.int .i64 n,.slice (some ⟨B,0,none⟩) K K]) w.drew:=hlk _ (Fr.drew _ _);have HP:Hid (∀W,Fr [] w W->Calls prog 279 #[.pointer (some ⟨Z.z.lr,0,none⟩),.agg #[.int .i64 n,.slice (some ⟨B,0,none⟩) K K]] W fun e w'=>e=.returned (.bool true)/\w'.cell? ⟨Z.z.mb,7,none⟩=some (.map (some Z.z.wb))/\w'.cell? ⟨Z.z.mb,8,none⟩=some (.pointer (some ⟨Z.z.lr,0,none⟩))/\(Instr.lookup 161 (.map (some Z.z.wb)) (.int .i64 n) false).run prog w'=.ok (.agg #[.int .i64 n,.slice (some ⟨B,0,none⟩) K K]) w'/\(∃w2,(Builtin.delete_ #[161,3] 0 #[.map (some Z.z.wb),.int .i64 n]).run prog w'=.ok (.tuple #[]) w2/\zlq w0 c T w Z s n w2)):=fun W hf=>by
  have hW:=h.quiet hf;have hx:(txR T Z.kb n).v=.agg #[.int .i64 n,.slice (some ⟨B,0,none⟩) K K]:=by rw[zadq,hB,hK];rfl
  refine Calls.mono (by rw[<-hx];exact GT.gput_any (txR T Z.kb n) W hW.li (by rw[List.length_map];exact hroom)) ?_;rintro e w1⟨rfl,p',h1,h2,h3⟩;have h1':GT.Rg w1 Z.z.lr p' c.w.toNat ((s.line++[n]).map (txR T Z.kb)) false:=by rw[List.map_append];exact h1
  have hD:=(h.dn hf).trans (hW.setLi h2 h1' h3 (Nat.le_refl _));have hM:=hD.m;obtain⟨w2,k1,k2,k3⟩:=hM.wa.drop n hi 0;rw[zabv]at k2
  have hl:=hM.wa.look n hi;rw[show wtF T Z.kb s.wt n=some (some (n,B,K)) from hF]at hl
  exact⟨rfl,hM.mc rfl,hM.mc rfl,hl,w2,k1,p',hD.trans (hM.setWa k3 k2 hM.few.2.1 (Nat.le_refl _))⟩
 clear h hF hlk hK hB;go_enter func277,ntmps277;go_wp2_with fail
 go_region_held3 (fun W=>W.cell? ⟨Z.z.mb,7,none⟩=some (.map (some Z.z.wb))/\W.cell? ⟨Z.z.mb,8,none⟩=some (.pointer (some ⟨Z.z.lr,0,none⟩))/\(Instr.lookup 161 (.map (some Z.z.wb)) (.int .i64 n) false).run prog W=.ok (.agg #[.int .i64 n,.slice (some ⟨B,0,none⟩) K K]) W) (go_keep)
  (first
   |(with_reducible refine Calls.mono (HP.out _ (Fr.drew _ _)) ?_;rintro e w5⟨rfl,y1,z1,z2,w6,y2,y3⟩))
 have HY:Hid (zlq w0 c T w Z s n w6):=y3;have HD:Hid (∃w',(Builtin.delete_ #[161,3] 0 #[.map (some Z.z.wb),.int .i64 n]).run prog w5=.ok (.tuple #[]) w'/\zlq w0 c T w Z s n w'):=⟨w6,y2,HY.out⟩;clear y3 y2 z1 z2 HY;go_wp2_with (first|(at_delete;refine zhd _ rfl _ _ _ _ rfl (.map (some Z.z.wb)) (.int .i64 n) rfl rfl (HD.out) ?_;rintro w7 hR;have HR:Hid (zlq w0 c T w Z s n w7):=hR;clear hR)|fail)
 go_wp2
 go_end0
 exact⟨⟨_,rfl⟩,HR.out⟩
end
section
variable{w0 w w':World}{c:Cf}{T:List Tx}{Z:Lay}{s:Ms}
theorem MaM.readF(h:MaM w0 w c T Z s)(hv:s.hv=false)(hr:s.rd<s.fd) :
  Calls prog 269 #[.pointer (some ⟨Z.z.fb,0,none⟩)] w fun e w'=>e=.returned (.tuple #[.int .i64 ((s.rd+1:Nat):Int),.int .i64 0])/\∃v' hw',Dn w0 c T w Z s w' {Z with v:=v',hw:=hw'} {s with rd:=s.rd+1,hv:=true}:=by
 have hfe:=h.fe;have hm:=hfe.m;have hfl:=hm.fl;have hfew:=hm.src.few;have rc:(⟨s.rd,s.fd,c.w.toNat,s.hv,false⟩:F.Fe).readC=0:=by simp[F.Fe.readC,hv];omega
 refine (F.fRead_any hm (by have h1:=zdb hm.ok;have h2:s.fd<=Z.y.ts.length:=hm.fl;simp[txs]at h1;simp[askd];omega)).mono ?_;rintro e w'⟨rfl,(⟨k,_⟩|⟨_,v',hw',k1,k2,k3,kb,kn,rfl,k5⟩)⟩
 .exact absurd rc k
 have rn:(⟨s.rd,s.fd,c.w.toNat,s.hv,false⟩:F.Fe).readN=s.rd+1:=by simp[F.Fe.readN,rc]
 have rs:(⟨s.rd,s.fd,c.w.toNat,s.hv,false⟩:F.Fe).readS=⟨s.rd+1,s.fd,c.w.toNat,true,false⟩:=by simp[F.Fe.readS,rc]
 rw[rs]at k1
 have ha:askd s.rd++[(⟨s.rd,s.fd,c.w.toNat,s.hv,false⟩:F.Fe).rd+1]=askd (s.rd+1):=(zyo _).symm;rw[ha]at k1
 have hkb:kb<w'.heap.size:=by
  obtain⟨_,k,e1,e2,_⟩:=k1.held rfl;have:kb=k:=by cases e1;rfl
  rw[this];exact lt_of_block e2
 have hd:=h.setFe k2 (fun b hb _=> ?_) (v':=v') (hw':=.slice (some ⟨kb,0,none⟩) kn kn) (rd:=s.rd+1) (fd:=s.fd) (hv:=true) (k:=s.k) ⟨k1,hfe.f0,hfe.g0,hfe.l0,hfe.m0,hfe.t0,Nat.le_trans hfe.b0 k2.size,fun k hk=> ?_,fun k hk=> ?_⟩ (fun b hb=> ?_) (Nat.le_refl _)
 .exact⟨by rw[rn,rc];rfl,v',_,hd⟩
 .rcases List.mem_cons.1 hb with rfl|hb
  .exact Or.inl ⟨hm.fn,hfe.f0⟩
  simp only[F.Src.own,List.mem_cons,Option.mem_toList]at hb;rcases hb with rfl|hb
  .exact Or.inl ⟨hm.src.gn,hfe.g0⟩
  exact Or.inr (Or.inl hb)
 .simp[Value.ownBlock]at hk
  subst hk;exact⟨Nat.le_trans h.fr.size k5,hkb⟩
 .simp[Value.ownBlock]at hk
  subst hk;exact Nat.le_trans hfe.b0 k5
 rcases hb with hb|hb|hb
 .exact Or.inl (Or.inl hb)
 .rcases k3 with e|⟨k,e,hk⟩
  .exact Or.inl (Or.inr (Or.inl (by rw[<-e];exact hb)))
  rw[e]at hb;cases hb;exact Or.inr hk
 simp[Value.ownBlock]at hb
 subst hb;exact Or.inr k5
theorem zafq(h:MaM w0 w c T Z s)(hnr:Z.nr=s.d)(hv:s.hv=false)(hr:s.rd<s.fd):Calls prog 267 #[.pointer (some ⟨Z.z.kd,0,none⟩),.int .u8 1] w fun e w'=>StP w0 c T w Z s ((s.rd+1:Nat):Int) 0 0 (zjo s) e w':=by
 obtain⟨w1,HW1⟩:∃w1,Hid (w.alloc (.cells #[.int .i64 0,.int .u8 0,.int .i64 0,.int .i64 0,.int .i64 0,.int .i64 0] 62)=w1):=⟨_,rfl⟩;obtain⟨A,HA⟩:∃A,Hid (w.heap.size=A):=⟨_,rfl⟩;have hF1:Fr [] w w1:=by rw[<-HW1.out];exact Fr.alloc _ _ _
 have hBx:Bx w0 c T w1 Z s A:=by rw[<-HW1.out,<-HA.out];exact Bx.new h
 have h1:=h.quiet hF1;obtain⟨N,hN⟩:∃N:Int,((s.rd+1:Nat):Int)=N:=⟨_,rfl⟩;have c0:w1.cell? ⟨Z.z.kd,0,none⟩=some (.pointer (some ⟨Z.z.mb,0,none⟩)):=h1.kdc.1;have c5:w1.cell? ⟨Z.z.mb,5,none⟩=some (.pointer (some ⟨Z.z.fb,0,none⟩)):=h1.mc rfl;have HC1:Hid (Calls prog 269 #[.pointer (some ⟨Z.z.fb,0,none⟩)] w1 fun e w'=>e=.returned (.tuple #[.int .i64 N,.int .i64 0])/\w'.heap[A]? = some (.cells #[.int .i64 0,.int .u8 0,.int .i64 0,.int .i64 0,.int .i64 0,.int .i64 0] 62 (0,0))/\∀W',Fr [A] w' W'->∃Z',Dn w0 c T w Z s W' Z' (zjo s)/\Z'.nr=(zjo s).d):=by
  refine (h1.readF hv hr).mono ?_;rintro e w'⟨rfl,v',hw',hD⟩;refine⟨by rw[hN],(hBx.then hD).box,fun W' hf=>⟨_,(hD.steps (k:=s.k+1) (Nat.le_succ _)).fin h hF1 (by rw[HA.out];exact Nat.le_refl _) hBx hf,hnr⟩⟩
 rw[hN];clear h hnr hv hr hF1 hBx h1 hN;go_enter func267,ntmps267;go_upto_region 1 with fail
 rw[HW1.out,HA.out];clear HW1 HA;go_wp2_with fail
 refine Calls.mono HC1.out ?_;rintro e w2⟨rfl,hb,hfin⟩;have HFin:Hid (∀W',_->_):=hfin;clear hfin HC1 c0 c5;go_wp2_with (first
  |(refine zak rfl _ _ rfl A 0 0 N 0 0 0 rfl rfl 0 0 0 0 0 0 hb ?_;intro w6 hw6 hf6;have HF6:Hid _:=HFin.out _ hf6;clear hf6)
  |fail)
 refine bodyPost_ret (zba rfl _ _ _ A _ rfl (zcs hw6.out)) rfl ?_;exact⟨rfl,HF6.out⟩
end
section
variable{w0 w w':World}{c:Cf}{T:List Tx}{Z:Lay}{s:Ms}
def gst(T:List Tx)(s:Ms)(n:Int)(r zs:List Int)(i:Nat):Ms:={s with pass:=r,ma:=(gdx s.ma s.bx n).2.1,bx:=(gdx s.ma s.bx n).2.2,en:=fun x=>s.en x\/x=n,wt:=fun m=>s.wt m/\m∉zs.take i,line:=s.line++zs.take i}
theorem zra(T:List Tx)(s:Ms)(n:Int)(r zs:List Int):gst T s n r zs 0={s with pass:=r,ma:=(gdx s.ma s.bx n).2.1,bx:=(gdx s.ma s.bx n).2.2,en:=fun x=>s.en x\/x=n}:=by
 unfold gst
 congr 1
 .funext m;simp
 simp
theorem zacc(T:List Tx)(s:Ms)(n:Int)(r zs:List Int)(i:Nat)(hi:i<zs.length):gst T s n r zs (i+1)={ (gst T s n r zs i) with line:=(gst T s n r zs i).line++[zs.getD i 0],wt:=fun m=>(gst T s n r zs i).wt m/\m≠zs.getD i 0}:=by
 have e:zs.take (i+1)=zs.take i++[zs.getD i 0]:=by rw[List.take_add_one];simp[List.getD,hi]
 unfold gst;rw[e]
 congr 1
 .funext m
  simp only[List.mem_append,List.mem_singleton,not_or,and_assoc]
 simp
theorem zafv(T:List Tx)(s:Ms)(n:Int)(r zs:List Int)(hz:frx (lgT T s.d) s.en n=zs):{ (gst T s n r zs zs.length) with k:=s.k+1}=zcf T s n r:=by
 unfold gst zcf;rw[hz,List.take_length]
def GL(w0:World)(c:Cf)(T:List Tx)(w1:World)(Z:Lay)(s:Ms)(n:Int)(r zs:List Int)(B:Nat)(so:Option Addr)(cc:Nat)(i:Nat)(W:World):Prop:=
 ∃Z',Dn w0 c T w1 Z s W Z' (gst T s n r zs i)/\Z'.nr=Z.nr/\IOw B W so zs.length cc zs/\∀k,(Value.slice so zs.length cc).ownBlock=some k->MaM.off w0 W c T Z' (gst T s n r zs i) k
theorem GL.next{w1 W:World}{n:Int}{r zs:List Int}{B cc i:Nat}{so:Option Addr}(h:GL w0 c T w1 Z s n r zs B so cc i W)(hi:i<zs.length)(hw:∀m∈zs,s.wt m/\i64 m)(hnd:Ris zs)(hroom:(s.line++zs).length<=c.w.toNat) :
  Calls prog 277 #[.pointer (some ⟨Z.z.mb,0,none⟩),.int .i64 (zs.getD i 0)] W fun e w'=>(∃v,e=.returned v)/\GL w0 c T w1 Z s n r zs B so cc (i+1) w':=by
 obtain⟨Z',hD,hnr,hI,hO⟩:=h;have hm:=List.getElem_mem hi;have hg:zs.getD i 0=zs[i]:=by simp[List.getD,hi]
 have hwi:=hw _ hm;rw[<-hg]at hwi hm
 have hwt:(gst T s n r zs i).wt (zs.getD i 0):=⟨hwi.1,zpm zs hnd i hi⟩;have hrm:(gst T s n r zs i).line.length<c.w.toNat:=by
  show (s.line++zs.take i).length<_;rw[List.length_append,List.length_take];rw[List.length_append]at hroom
  omega
 have hf:=znv hD.m hwi.2 hwt hrm;rw[hD.z]at hf
 refine hf.mono ?_;rintro e w'⟨hv,p',hD2⟩;rw[<-zacc T s n r zs i hi]at hD2
 obtain⟨S,sf,sS⟩:=hD2.x.fr;have hlt:∀k,(Value.slice so zs.length cc).ownBlock=some k->k<W.heap.size:=fun k hk=>by
  obtain⟨_,cur,e⟩:=hI.blk hk;exact lt_of_block e
 refine⟨hv,_,hD.trans hD2,hnr,hI.keepS sf (fun k hk hm=> ?_),fun k hk=>hD2.off (hlt k hk) (hO k hk)⟩;obtain⟨j,hj⟩:=sS k hm (hlt k hk);exact hO k hk j hj
theorem zafw(h:MaM w0 w c T Z s)(hnr:Z.nr=s.d)(hW:Wf c T s){n:Int}{r:List Int}(hp:s.pass=n::r):Calls prog 374 #[.pointer (some ⟨Z.z.kg,0,none⟩),.int .u8 8] w fun e w'=>StP w0 c T w Z s n 0 (gdx s.ma s.bx n).1 (zcf T s n r) e w':=by
 obtain⟨w1,HW1⟩:∃w1,Hid (w.alloc (.cells #[.int .i64 0,.int .u8 0,.int .i64 0,.int .i64 0,.int .i64 0,.int .i64 0] 62)=w1):=⟨_,rfl⟩;obtain⟨A,HA⟩:∃A,Hid (w.heap.size=A):=⟨_,rfl⟩;have hF1:Fr [] w w1:=by rw[<-HW1.out];exact Fr.alloc _ _ _
 have hBx:Bx w0 c T w1 Z s A:=by rw[<-HW1.out,<-HA.out];exact Bx.new h
 have h1:=h.quiet hF1;have hnp:n∈s.pass:=by rw[hp];simp
 have hno:=(hW.pass n hnp).1;have hnb:=hW.op.1 hno;have hdT:=hW.dT;have hT6:(T.length:Int)<=65536:=by have:=zdb hW.ok;omega
 have hfresh:¬(n<=s.ma\/n∈s.bx):=fun e=>hnb.2 ((hW.en n).2 ⟨hnb.1.1,e⟩);have hfree:=hW.free hno (hW.pass n hnp).2;have hgd:GDo s.ma s.bx n (gdx s.ma s.bx n).1 0 (gdx s.ma s.bx n).2.1 (gdx s.ma s.bx n).2.2:=⟨by have:=zpo _ _ (hW.gok.1.ins hnb.1.1 (by omega) hfresh);exact⟨this.1,this.2.1⟩,Or.inr ⟨⟨hnb.1.1,by omega,hfresh⟩,rfl,rfl,rfl⟩⟩;have kc:∀W Z' s',Dn w0 c T w1 Z s W Z' s'->W.cell? ⟨Z.z.kg,0,none⟩=some (.pointer (some ⟨Z.z.mb,0,none⟩)):=fun W Z' s' hD=>by have:=hD.m.kgc.1;rw[hD.z]at this;exact this
 have mc:∀W Z' s',Dn w0 c T w1 Z s W Z' s'->∀j v,(mC c Z.z)[j]? = some v->W.cell? ⟨Z.z.mb,j,none⟩=some v:=fun W Z' s' hD j v hv=>by
  have:=hD.m.mc (j:=j) (v:=v) (by rw[hD.z];exact hv);rw[hD.z]at this
  exact this
 have HKc:Hid _:=kc;have HMc:Hid _:=mc;have c0:w1.cell? ⟨Z.z.kg,0,none⟩=some (.pointer (some ⟨Z.z.mb,0,none⟩)):=h1.kgc.1;have c9:w1.cell? ⟨Z.z.mb,9,none⟩=some (.pointer (some ⟨Z.z.pr,0,none⟩)):=h1.mc rfl;have HC1:Hid (Calls prog 376 #[.pointer (some ⟨Z.z.pr,0,none⟩)] w1 fun e w'=>e=.returned (.tuple #[.int .i64 n,.bool true])/\Dn w0 c T w1 Z s w' Z {s with pass:=r}):=by
  have hpa:=h1.pa;rw[hp]at hpa
  refine (GI.gtake_any n w1 hpa).mono ?_;rintro e w'⟨rfl,k1,k2⟩;exact⟨rfl,h1.setPa k2 k1 (GI.Mv.refl _ _) (Nat.le_refl _)⟩
 have HC2:Hid (∀W,Dn w0 c T w1 Z s W Z {s with pass:=r}->Calls prog 377 #[.pointer (some ⟨Z.z.gb,0,none⟩),.int .i64 n] W fun e w'=>e=.returned (.tuple #[.int .i64 (gdx s.ma s.bx n).1,.int .i64 0])/\Dn w0 c T w1 Z s w' Z {s with pass:=r,ma:=(gdx s.ma s.bx n).2.1,bx:=(gdx s.ma s.bx n).2.2}):=fun W hD=>by
  refine (zaee hD.m.ga hgd).mono ?_;rintro e w'⟨rfl,k1,k2⟩;exact⟨rfl,hD.trans (hD.m.setGa k2 k1 (Nat.le_refl _))⟩
 have hroomF:∀zs,DoT (lgT T s.d) (Op11 (lgT T s.d) s.en) n zs->(s.line++zs).length<=c.w.toNat:=fun zs hz=>by
  have hwg:=hW.gate hp hz;have hl:(zcf T s n r).line=s.line++zs:=by show s.line++frx (lgT T s.d) s.en n=_;rw[zir hz]
  rw[<-hl];exact zkq (a:=(zcf T s n r).ma) hwg.nd1 (fun x hx=>hwg.near (hwg.line x hx).1)
 have HC3:Hid (∀W,Dn w0 c T w1 Z s W Z {s with pass:=r,ma:=(gdx s.ma s.bx n).2.1,bx:=(gdx s.ma s.bx n).2.2}->Calls prog 378 #[.pointer (some ⟨Z.z.tb,0,none⟩),.int .i64 n] W fun e w'=>∃so cc zs,e=.returned (.tuple #[.slice so zs.length cc,.int .i64 0])/\zs.length<=64/\DoT (lgT T s.d) (Op11 (lgT T s.d) s.en) n zs/\GL w0 c T w1 Z s n r zs W.heap.size so cc 0 w'):=fun W hD=>by
  refine (zaec n W hD.m.de hno hfree).mono ?_;rintro e w'⟨so,N,cc,zs,rfl,k1,k2,k3,k4⟩;obtain rfl:=k1.len;have hS:∀b∈Z.B,b<W.heap.size->b∈Z.B:=fun b hb _=>hb;have hD2:=hD.m.setDe k4 hS k3 (fun b hb=>Or.inl hb) hD.m.few.1 (Nat.le_refl _) (by show s.d<=Z.nr;omega);refine⟨so,cc,zs,rfl,by have:=hroomF zs k2;have:=hW.may.2.2.1;rw[List.length_append]at *;omega,k2,Z,?_,rfl,k1,fun k hk=> ?_⟩
  .rw[zra];exact hD.trans hD2
  rw[zra];exact hD.m.offDe k4 hS (k1.blk hk).1
 have HE:Hid (∀zs B so cc W,DoT (lgT T s.d) (Op11 (lgT T s.d) s.en) n zs->GL w0 c T w1 Z s n r zs B so cc zs.length W->W.heap[A]? = some (.cells #[.int .i64 0,.int .u8 0,.int .i64 0,.int .i64 0,.int .i64 0,.int .i64 0] 62 (0,0))/\∀W',Fr [A] W W'->∃Z',Dn w0 c T w Z s W' Z' (zcf T s n r)/\Z'.nr=(zcf T s n r).d):=fun zs B so cc W hz hG=>by
  obtain⟨Z',hD,hn',_,_⟩:=hG;refine⟨(hBx.then hD).box,fun W' hf=> ?_⟩;have hD':Dn w0 c T w1 Z s W Z' (zcf T s n r):=by
   rw[<-zafv T s n r zs (zir hz)];exact⟨hD.m.steps (Nat.le_succ _),by
    have e:mP w0 c T Z' { (gst T s n r zs zs.length) with k:=s.k+1}=mP w0 c T Z' (gst T s n r zs zs.length):=by funext i;cases i<;>rfl
    rw[e];exact hD.x,hD.z,hD.y⟩
  exact⟨Z',hD'.fin h hF1 (by rw[HA.out];exact Nat.le_refl _) hBx hf,by rw[hn',hnr];rfl⟩
 have HRd:Hid (∀zs B so cc i W,DoT (lgT T s.d) (Op11 (lgT T s.d) s.en) n zs->GL w0 c T w1 Z s n r zs B so cc i W->i<zs.length->(∃g,so=some ⟨g,0,none⟩/\W.cell? ⟨g,i,none⟩=some (.int .i64 (zs.getD i 0)))/\W.cell? ⟨Z.z.kg,0,none⟩=some (.pointer (some ⟨Z.z.mb,0,none⟩))/\Calls prog 277 #[.pointer (some ⟨Z.z.mb,0,none⟩),.int .i64 (zs.getD i 0)] W fun e w'=>(∃v,e=.returned v)/\GL w0 c T w1 Z s n r zs B so cc (i+1) w'):=fun zs B so cc i W hz hG hi=>by
  have hzw:∀m∈zs,s.wt m/\i64 m:=fun m hm=>by
   obtain⟨a1,a2,_⟩:=(hz.2 m).1 hm;have:=(hW.op.1 a1).1;exact⟨(hW.wait m).2 ⟨a1,n,hno,a2⟩,by unfold i64;omega⟩
  have hroom:=hroomF zs hz;refine⟨?_,?_,hG.next hi hzw hz.1 hroom⟩
  .obtain⟨Z',_,_,hI,_⟩:=hG;obtain⟨g,e,_,hc⟩:=hI.at i hi;exact⟨g,e,hc⟩
  obtain⟨Z',hD,_⟩:=hG;exact kc _ _ _ hD
 clear hroomF h hnr hW hp hF1 hBx h1 hnp hno hnb hdT hT6 hfresh hfree hgd kc mc;generalize (gdx s.ma s.bx n).1=up at HC2 ⊢;go_enter func374,ntmps374;go_upto_region 1 with fail
 rw[HW1.out,HA.out];clear HW1 HA;go_wp2_with fail
 refine Calls.mono HC1.out ?_;rintro e w2⟨rfl,hD2⟩;have HD2:Hid (Dn w0 c T w1 Z s w2 Z {s with pass:=r}):=hD2;have c0:=HKc.out _ _ _ HD2.out;have c12:=HMc.out _ _ _ HD2.out 12 _ rfl;clear hD2 c9 HC1;go_wp2_with fail
 refine Calls.mono (HC2.out _ HD2.out) ?_;rintro e w3⟨rfl,hD3⟩;have HD3:Hid _:=hD3;have c0:=HKc.out _ _ _ HD3.out;have c6:=HMc.out _ _ _ HD3.out 6 _ rfl;clear hD3 c12 HC2 HD2;go_wp2_with fail
 refine Calls.mono (HC3.out _ HD3.out) ?_;rintro e w4⟨so,cc,zs,rfl,hNb,hz,hG⟩;have HZ:Hid (DoT _ _ _ _):=hz;have HG:Hid (GL w0 c T w1 Z s n r zs w3.heap.size so cc 0 w4):=hG;obtain⟨N,hN⟩:∃N,zs.length=N:=⟨_,rfl⟩;obtain⟨B,hB⟩:∃B,w3.heap.size=B:=⟨_,rfl⟩;have HN:Hid (zs.length=N):=hN;rw[hB]at HG
 rw[hN]at hNb ⊢
 clear hz hG c0 c6 HC3 HD3 hN hB;go_wp2_with fail
 go_loopw [53] (fun ii wr=>∃i:Nat,ii=.int .i64 i/\i<=N/\Hid (GL w0 c T w1 Z s n r zs B so cc i wr)) (fun ii _=>N-(RowKit.intOf ii).toNat)
 case atStart=>exact⟨0,rfl,Nat.zero_le _,HG⟩
 obtain⟨i,rfl,hiN,HGi⟩:=hrel;by_cases hi:i<N
 .obtain⟨⟨g,rfl,hg⟩,k0,hC⟩:=HRd.out zs B so cc i wr HZ.out HGi.out (by rw[HN.out];exact hi);have HC:Hid (Calls ..):=hC;clear hC HGi;obtain⟨x,hx⟩:∃x,zs.getD i 0=x:=⟨_,rfl⟩;rw[hx]at hg HC
  clear hx;go_wp2_with fail
  refine Calls.mono HC.out ?_;rintro e w5⟨⟨v,rfl⟩,hG5⟩;have HG5:Hid (GL w0 c T w1 Z s n r zs B (some ⟨g,0,none⟩) cc (i+1) w5):=hG5;clear hG5 hg k0;go_wp2;go_roundw;case rel=>exact⟨i+1,rfl,by omega,HG5⟩
  case measure=>simp[RowKit.intOf];omega
 obtain rfl:i=N:=by omega
 obtain⟨hb,hfin⟩:=HE.out zs B so cc wr HZ.out (by rw[HN.out];exact HGi.out);have HFin:Hid (∀W',_->_):=hfin;clear hfin HGi;go_wp2_with (first
  |(refine zak rfl _ _ rfl A 0 0 n 0 up 0 rfl rfl 0 0 0 0 0 0 hb ?_;intro w6 hw6 hf6;have HF6:Hid _:=HFin.out _ hf6;clear hf6)
  |fail)
 refine bodyPost_ret (zba rfl _ _ _ A _ rfl (zcs hw6.out)) rfl ?_;exact⟨rfl,HF6.out⟩
end
end Go.Proofs.YtojjdnjfaelnfaaGreatDoor
