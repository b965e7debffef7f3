/- Contracts and lemmas. -/
import Derived.Test.YtaigdcmoecgabaaGreatGp51
import Derived.Test.YtaigdcmoecgabaaGreatGp52
set_option maxHeartbeats 8000000
set_option maxRecDepth 100000
set_option linter.unusedSimpArgs false
set_option linter.unusedVariables false
namespace Go.Proofs.YtaigdcmoecgabaaGreat
open Go.ChangeShapes Go.WideShapes Go.ChangeAt Go.RowKit Go.Lib Go.Proofs.Tryz
theorem zin:∀(dl:List Nat)(vs:List Value),zbs (dl.map some) vs=dl.zip vs
 | [],_=>rfl
 |_::_,[]=>rfl
 |d::r,v::q=>congrArg ((d,v) :: ·) (zin r q)
theorem znx(dl:List Nat)(j:Nat):zam (dl.map some) j=dl[j]? :=by
 unfold zam;rw[List.getElem?_map];cases dl[j]? <;> rfl
section
variable{ops:Array Oper}{P:Program}{Q:Exit->Act->World->Prop}{a0:Act}{w0:World}{id:Nat}
theorem zdf(dl:List Nat)(n:Nat)(Φ:Nat->Value->World->Prop)(hm:P.follows .mixedOrders=true)(hl:lexB ops=true)(hs:zjq ops (dl.map some) n=true)(hz:a0.tmps.size=n)(hk:∀i v w w',Fr [] w w'->Φ i v w->Φ i v w')(hop:∀(i:Nat) (o:Oper),ops[i]? = some o->∀(a:Act) (w:World),Fr [] w0 w->(∀t,t∉dl->a.eval (.tmp t)=a0.eval (.tmp t))->(∀j d,dep ops i j=true->dl[j]? = some d->Φ j (a.eval (.tmp d)) w)->o.wp P a w (fun a' w'=>∃v,a'=a.put o.dst v/\Fr [] w w'/\Φ i v w') Q)(hend:∀(vs:List Value) w,vs.length=dl.length->Fr [] w0 w->(∀j v,vs[j]? = some v->Φ j v w)->Q .normal (puts a0 (dl.zip vs)) w):(Code.region id ops true).wp P Q a0 w0:=by
 refine zfy (dl.map some) n (fun i r B w=>B=[]/\Φ i (r i) w) hm hl hs hz (fun i r r' B w w' hf e _ h=>⟨h.1,by rw[e];exact hk i _ w w' hf h.2⟩) (fun i o ho r a w hf hsame hv hd=> ?_) (fun r B w hf hP _ _=> ?_)
 .refine Oper.wp_mono ?_ (hop i o ho a w hf (fun t ht=>hsame t (by simpa using ht)) (fun j d hj hd'=>by
   obtain⟨B,_,hB⟩:=hd j hj;rw[hv j d hj ((znx dl j).trans hd')];exact hB))
  rintro a' w'⟨v,rfl,hf',hv'⟩;exact⟨v,[],rfl,hf',fun r' e _=>⟨rfl,by rw[e];exact hv'⟩,by simp⟩
 rw[zin];refine hend _ w (by simpa using (zjr hs).2.2.1.symm) hf fun j v hv=> ?_;rw[List.getElem?_map]at hv
 cases hj:(List.range ops.size)[j]? with
 |none=>rw[hj]at hv;cases hv
 |some i=>
  obtain⟨h1,h2⟩:=List.getElem?_eq_some_iff.1 hj;rw[hj]at hv
  cases hv;rw[List.getElem_range]at h2
  subst h2;exact (hP _ (by simpa using h1)).2
theorem zgn(dl:List Nat)(n:Nat)(Φ:Nat->Value->World->Prop)(hm:P.follows .mixedOrders=true)(hl:lexB ops=true)(hs:zjq ops (dl.map some) n=true)(hz:a0.tmps.size=n)(hk:∀i v w w',Fr [] w w'->Φ i v w->Φ i v w')(hop:∀(i:Nat) (o:Oper),ops[i]? = some o->∀(a:Act) (w:World),Fr [] w0 w->(∀t,t∉dl->a.eval (.tmp t)=a0.eval (.tmp t))->(∀j d,dep ops i j=true->dl[j]? = some d->Φ j (a.eval (.tmp d)) w)->o.wp P a w (fun a' w'=>∃v,a'=a.put o.dst v/\Fr [] w w'/\Φ i v w') Q)(hend:∀a w,Fr [] w0 w->a.defers=a0.defers->(∀j d,dl[j]? = some d->Φ j (a.tmps.getD d undef) w)->Q .normal a w):(Code.region id ops true).wp P Q a0 w0:=by
 obtain⟨s1,s2,s3,s4⟩:=zjr hs;refine zdf dl n Φ hm hl hs hz hk hop fun vs w hlen hf hv=>hend _ w hf (zgp _ _) fun j d hd=> ?_;have hj:j<vs.length:=by rw[hlen];exact (List.getElem?_eq_some_iff.1 hd).1
 have hjo:j<ops.size:=by rw[<-s3,List.length_map,<-hlen];exact hj
 have hn:=zgq (dl.map some) vs (by simp[hlen]) s4;rw[zin]at hn
 have hdn:=(s2 j _ (Array.getElem?_eq_getElem hjo)).2 d (by
  have:=s1 j;unfold zbr at this;rw[Array.getElem?_eq_getElem hjo,znx,hd]at this
  exact this)
 have e:env (puts a0 (dl.zip vs)) d=vs[j]:=zmi a0 _ d _ hn (List.mem_iff_getElem?.2 ⟨j,by simp[List.getElem?_zip_eq_some,hd,hj]⟩) (by rw[hz];exact hdn);have e2:(puts a0 (dl.zip vs)).tmps.getD d undef=vs[j]:=e;rw[e2];exact hv j _ (List.getElem?_eq_getElem hj)
end
section
variable{ρ:Operand->Value}{w:World}{o:Oper}
theorem zdy{c:Cf}{b:Nat}(x:Operand)(ho:o.op=.load 23 x)(hx:ρ x=.pointer (some ⟨b,0,none⟩))(hb:w.heap[b]? = some (.cells #[.int .i64 c.l,.int .i64 c.s,.int .i64 c.w,.int .i64 c.q] 23 (0,0))):(execOp ρ o).run prog w=.ok (.value (.agg #[.int .i64 c.l,.int .i64 c.s,.int .i64 c.w,.int .i64 c.q])) w:=
 zov x ho hx (by rw[crw hb];rfl) (by rw[crw hb];rfl) (by rw[crw hb];rfl) (by rw[crw hb];rfl)
theorem zkc{x y:Operand}{fa fb:Nat}{ca cb:Array Value}(ho:o.op=.build 79 #[(0,x),(1,y)])(hx:ρ x=.func (Fn.func fa) #[] ca)(hy:ρ y=.func (Fn.func fb) #[] cb):(execOp ρ o).run prog w=.ok (.value (.agg #[.func (Fn.func fa) #[] ca,.func (Fn.func fb) #[] cb])) w:=by
 obtain⟨d,op,ty,ps,af,gd⟩:=o;simp only at ho;subst ho
 go_simp
theorem zor{x0 x1:Operand}(ho:o.op=.call {callee:=.value (.func 32),args:=#[x0,x1],argTypes:=#[23,3]})(h:ρ (.func 32)=.func (Fn.func 32) #[] #[]):(execOp ρ o).run prog w=.ok (.enter 32 #[ρ x0,ρ x1]) w:=by
 obtain⟨d,op,ty,ps,af,gd⟩:=o;simp only at ho;subst ho
 go_simp
theorem zny{x0:Operand}(ho:o.op=.call {callee:=.value (.func 33),args:=#[x0],argTypes:=#[3]})(h:ρ (.func 33)=.func (Fn.func 33) #[] #[]):(execOp ρ o).run prog w=.ok (.enter 33 #[ρ x0]) w:=by
 obtain⟨d,op,ty,ps,af,gd⟩:=o;simp only at ho;subst ho
 go_simp
theorem zrg{x0:Operand}(ho:o.op=.call {callee:=.value (.func 34),args:=#[x0],argTypes:=#[3]})(h:ρ (.func 34)=.func (Fn.func 34) #[] #[]):(execOp ρ o).run prog w=.ok (.enter 34 #[ρ x0]) w:=by
 obtain⟨d,op,ty,ps,af,gd⟩:=o;simp only at ho;subst ho
 go_simp
theorem zrh{x0 x1 x2:Operand}(ho:o.op=.call {callee:=.value (.func 31),args:=#[x0,x1,x2],argTypes:=#[23,24,132]})(h:ρ (.func 31)=.func (Fn.func 31) #[] #[]):(execOp ρ o).run prog w=.ok (.enter 31 #[ρ x0,ρ x1,ρ x2]) w:=by
 obtain⟨d,op,ty,ps,af,gd⟩:=o;simp only at ho;subst ho
 go_simp
end
def cfV(c:Cf):Value:=.agg #[.int .i64 c.l,.int .i64 c.s,.int .i64 c.w,.int .i64 c.q]
def ByV(c:Cf)(z:Nat)(v:Value)(w:World):Prop:=∃a b,v=.func (Fn.func 64) #[] #[.pointer (some ⟨b,0,none⟩),.pointer (some ⟨a,0,none⟩)]/\w.heap[a]? = some (.cells #[.int .i64 c.l,.int .i64 c.s,.int .i64 c.w,.int .i64 c.q] 23 (0,0))/\w.heap[b]? = some (.cells #[.int .i64 ((z+1:Nat):Int)] 3 (0,0))
def UnV(tk:Bool)(N:Int)(v:Value)(w:World):Prop:=∃fb cb B,v=.func (Fn.func fb) #[] cb/\UnF w N v B tk
def GoV(c:Cf)(z:Nat)(tk:Bool)(N:Int)(v:Value)(w:World):Prop:=∃fa ca fb cb,v=.agg #[.func (Fn.func fa) #[] ca,.func (Fn.func fb) #[] cb]/\ByV c z (.func (Fn.func fa) #[] ca) w/\UnV tk N (.func (Fn.func fb) #[] cb) w
def GsV(c:Cf)(m:Nat)(z:Nat->Nat)(tk:Nat->Bool)(N:Nat->Int)(v:Value)(w:World):Prop:=∃g,v=.slice (some ⟨g,0,none⟩) m m/\∀i,i<m->GlM w c g (z i) (tk i) (N i) i
def PlV(w0:World)(c:Cf)(T:List Tx)(R:Ms->Int->Ms->Prop)(s0:Ms)(J:Ms->Prop)(v:Value)(w:World):Prop:=∃xs s',w.ownsRow 0 3 1 v xs.length (tkC xs)/\Fw c T R s0 xs s'/\J s'/\∀b,v.ownBlock=some b->w0.heap.size<=b
section
variable{c:Cf}{z m:Nat}{tk:Bool}{N:Int}{v:Value}{w w' w0:World}{zs:Nat->Nat}{tks:Nat->Bool}{Ns:Nat->Int}{T:List Tx}{R:Ms->Int->Ms->Prop}{s0:Ms}{J:Ms->Prop}
theorem UnF.keep{B:List Nat}(h:UnF w N v B tk)(hf:Fr [] w w'):UnF w' N v B tk:=by
 cases h with
 |mark a h1 h2 h3=>exact .mark a h1 h2 (hf.keep h3 (by simp))
 |take a h1 h2 h3=>exact .take a h1 h2 (hf.keep h3 (by simp))
theorem ByV.keep(hf:Fr [] w w')(h:ByV c z v w):ByV c z v w':=by
 obtain⟨a,b,h1,h2,h3⟩:=h;exact⟨a,b,h1,hf.keep h2 (by simp),hf.keep h3 (by simp)⟩
theorem UnV.keep(hf:Fr [] w w')(h:UnV tk N v w):UnV tk N v w':=by
 obtain⟨fb,cb,B,h1,h2⟩:=h;exact⟨fb,cb,B,h1,h2.keep hf⟩
theorem GoV.keep(hf:Fr [] w w')(h:GoV c z tk N v w):GoV c z tk N v w':=by
 obtain⟨fa,ca,fb,cb,h1,h2,h3⟩:=h;exact⟨fa,ca,fb,cb,h1,h2.keep hf,h3.keep hf⟩
theorem GsV.keep(hf:Fr [] w w')(h:GsV c m zs tks Ns v w):GsV c m zs tks Ns v w':=by
 obtain⟨g,h1,h2⟩:=h;refine⟨g,h1,fun i hi=> ?_⟩;obtain⟨nv,uv,na,nl,B,cs,a,b,d,e,f,k,l⟩:=h2 i hi;exact⟨nv,uv,na,nl,B,cs,hf.keep a (by simp),b,d,e,hf.keep f (by simp),hf.keep k (by simp),l.keep hf⟩
theorem PlV.keep(hf:Fr [] w w')(h:PlV w0 c T R s0 J v w):PlV w0 c T R s0 J v w':=by
 obtain⟨xs,s',h1,h2⟩:=h;exact⟨xs,s',zao h1 hf (fun _ _=>by simp),h2⟩
theorem UnF.val{B:List Nat}(h:UnF w N v B tk):UnV tk N v w:=by
 cases h with
 |mark a h1 h2 h3=>exact⟨_,_,B,h1,.mark a h1 h2 h3⟩
 |take a h1 h2 h3=>exact⟨_,_,B,h1,.take a h1 h2 h3⟩
theorem ByF.val{B:List Nat}{lane:Int}(h:ByF w c lane v B)(e:lane=((z+1:Nat):Int)):ByV c z v w:=by
 obtain⟨a,b,h1,_,h2,h3⟩:=h;exact⟨a,b,h1,h2,by rw[<-e];exact h3⟩
theorem zri(N:Int):Unt false N=fun _ _ m=>m=N:=by funext k n m;simp[Unt]
theorem zrj(N:Int):Unt true N=fun k n _=>k=4/\n=N:=by funext k n m;simp[Unt]
theorem GlM.of{g:Nat}{cs:Array Value}{i:Nat}{nv uv:Value}(hg:w.heap[g]? = some (.cells cs 79 (0,0)))(h0:cs[i*2]? = some nv)(h1:cs[i*2+1]? = some uv)(hb:ByV c z nv w)(hu:UnV tk N uv w):GlM w c g z tk N i:=by
 obtain⟨a,b,e,k1,k2⟩:=hb;obtain⟨fb,cb,B,_,hu⟩:=hu;exact⟨nv,uv,a,b,B,cs,hg,h0,h1,e,k1,k2,hu⟩
end
section
variable{w:World}{l s x q:Int}{ao:Option Addr}{L cap:Nat}{ts:List Tm}
theorem Sr.first{c:Cf}{T:List Tx}{L N:Nat}(hW:Wf c T {ms0 with fd:=L})(hN:N<=L):Sr c T N {ms0 with fd:=L} 0 0 0:=Sr.start hW (fun _=>rfl) rfl rfl (fun _=>rfl) (fun _=>id) ⟨Nat.zero_le _,hN⟩
theorem Wf.first{c:Cf}{T:List Tx}{L:Nat}(hc:c.may)(hok:okL 1 T)(hL:L=T.length):Wf c T {ms0 with fd:=L}:=by
 have h:=(Wf.zero hc hok).feed (L:Int);have e1:zbj T ms0.fd (L:Int)=L:=by
  unfold zbj;rw[<-hL,if_neg (by have:ms0.fd=0:=rfl;omega)];omega
 rw[e1]at h
 exact h
end
theorem zzg{ρ:Operand->Value}{w:World}{o:Oper}{x y z:Operand}{fa fb fc fd fe ff:Nat}{ca cb cc cd ce cf:Array Value}(ho:o.op=.buildSlice 132 3 #[(0,x),(1,y),(2,z)])(hx:ρ x=.agg #[.func (Fn.func fa) #[] ca,.func (Fn.func fb) #[] cb])(hy:ρ y=.agg #[.func (Fn.func fc) #[] cc,.func (Fn.func fd) #[] cd])(hz:ρ z=.agg #[.func (Fn.func fe) #[] ce,.func (Fn.func ff) #[] cf]):(execOp ρ o).run prog w=.ok (.value (.slice (some ⟨w.heap.size,0,none⟩) 3 3)) (w.alloc (.cells #[.func (Fn.func fa) #[] ca,.func (Fn.func fb) #[] cb,.func (Fn.func fc) #[] cc,.func (Fn.func fd) #[] cd,.func (Fn.func fe) #[] ce,.func (Fn.func ff) #[] cf] 79)):=by
 obtain⟨d,op,ty,ps,af,gd⟩:=o;simp only at ho;subst ho
 go_simp
theorem zagv{ρ:Operand->Value}{w:World}{o:Oper}{x:Operand}{n:Int}(ho:o.op=.binOp .sub 3 x (.const (.int .i64 1)) 3)(hc:ρ (.const (.int .i64 1))=.int .i64 1)(hx:ρ x=.int .i64 n)(hn:1<=n/\n<=65536):(execOp ρ o).run prog w=.ok (.value (.int .i64 (n-1))) w:=by
 obtain⟨d,op,ty,ps,af,gd⟩:=o;simp only at ho;subst ho;have hw:IntKind.i64.wrap (n-1)=n-1:=by
  rw[IntKind.wrap_i64];omega
 go_simp
def ApE(i j:Nat)(s:Ms):Prop:=(∃l,s.ln 0=some ⟨(i:Int),l,0⟩)/\(∃l,s.ln 1=some ⟨(j:Int),l,0⟩)/\s.ma<(i:Int)/\s.rd<=j
def zA:Nat->Nat|2=>1|_=>0
def tkA:Nat->Bool|0=>false|_=>true
def nA(i j:Nat):Nat->Int|0=>(i:Int)-1|1=>(i:Int)|_=>(j:Int)
def aI(c:Cf)(T:List Tx)(P:Nat->Prop)(i j L:Nat):Nat->Ms->Int->Int->Int->Int->Prop
 |0,s,k,n,sh,ct=>Sr c T (i-1) s k sh ct/\s.fd=L
 |1,s,k,n,sh,ct=>Tk1 c T i s k n sh ct/\s.fd=L
 |2,s,k,n,sh,ct=>Ap c T P i j s k n sh ct/\s.fd=L
 |_,s,_,_,_,_=>ApE i j s
theorem Gl.fd{c:Cf}{T:List Tx}{z L:Nat}{R:Ms->Int->Ms->Prop}{I:Ms->Int->Int->Int->Int->Prop}{U:Int->Int->Int->Prop}(h:Gl c T z R I U):Gl c T z R (fun s k n sh ct=>I s k n sh ct/\s.fd=L) U:=⟨fun s k n sh ct hI=>h.wf s k n sh ct hI.1,fun s k n sh ct hI hU=>by
 obtain⟨q,a,b,d,e⟩:=h.go s k n sh ct hI.1 hU;refine⟨q,a,b,d,fun k' n' sh' ct' s' hW hr=> ?_⟩;obtain⟨e1,e2⟩:=e k' n' sh' ct' s' hW hr;exact⟨⟨e1,((hr.nu (h.wf s k n sh ct hI.1)).2.2).trans hI.2⟩,e2⟩⟩
section
variable{w:World}{l s x q:Int}{ao:Option Addr}{L cap i j:Nat}{ts:List Tm}{P:Nat->Prop}
def aPh(w0:World)(c:Cf)(ao:Option Addr)(L cap i j:Nat)(T:List Tx):Nat->Value->World->Prop
 |0,v,w=>v=cfV c
 |1,v,w=>v=.slice ao L cap
 |2,v,w=>v=cfV c
 |3,v,w=>ByV c 0 v w
 |4,v,w=>v=.int .i64 (i:Int)
 |5,v,w=>v=.int .i64 ((i:Int)-1)
 |6,v,w=>UnV false ((i:Int)-1) v w
 |7,v,w=>GoV c 0 false ((i:Int)-1) v w
 |8,v,w=>v=cfV c
 |9,v,w=>ByV c 0 v w
 |10,v,w=>v=.int .i64 (i:Int)
 |11,v,w=>UnV true (i:Int) v w
 |12,v,w=>GoV c 0 true (i:Int) v w
 |13,v,w=>v=cfV c
 |14,v,w=>ByV c 1 v w
 |15,v,w=>v=.int .i64 (j:Int)
 |16,v,w=>UnV true (j:Int) v w
 |17,v,w=>GoV c 1 true (j:Int) v w
 |18,v,w=>GsV c 3 zA tkA (nA i j) v w
 |19,v,w=>PlV w0 c T (fun _ _ _=>True) {ms0 with fd:=L} (ApE i j) v w
 |20,v,w=>PlV w0 c T (fun _ _ _=>True) {ms0 with fd:=L} (ApE i j) v w
 |21,v,w=>v=.int .i64 0
 |_,_,_=>True
theorem zacn{w0:World}{c:Cf}{T:List Tx}:∀k v w w',Fr [] w w'->aPh w0 c ao L cap i j T k v w->aPh w0 c ao L cap i j T k v w'
 |0,v,w,w',hf,h=>h
 |1,v,w,w',hf,h=>h
 |2,v,w,w',hf,h=>h
 |3,v,w,w',hf,h=>ByV.keep hf h
 |4,v,w,w',hf,h=>h
 |5,v,w,w',hf,h=>h
 |6,v,w,w',hf,h=>UnV.keep hf h
 |7,v,w,w',hf,h=>GoV.keep hf h
 |8,v,w,w',hf,h=>h
 |9,v,w,w',hf,h=>ByV.keep hf h
 |10,v,w,w',hf,h=>h
 |11,v,w,w',hf,h=>UnV.keep hf h
 |12,v,w,w',hf,h=>GoV.keep hf h
 |13,v,w,w',hf,h=>h
 |14,v,w,w',hf,h=>ByV.keep hf h
 |15,v,w,w',hf,h=>h
 |16,v,w,w',hf,h=>UnV.keep hf h
 |17,v,w,w',hf,h=>GoV.keep hf h
 |18,v,w,w',hf,h=>GsV.keep hf h
 |19,v,w,w',hf,h=>PlV.keep hf h
 |20,v,w,w',hf,h=>PlV.keep hf h
 |21,v,w,w',hf,h=>h
 |n+22,v,w,w',hf,h=>trivial
theorem zzh(hT:TRs w ao ts)(hL:L=ts.length)(hLc:L<=cap)(hok:okL 1 (txs ts))(hc:Cf.may ⟨l,s,x,q⟩)(hij:1<=i/\i<j/\j<=L)(hw:(j:Int)-i<x)(hl2:2<=l)(hP:P i)(hPs:∀m n:Nat,P m->m<n->(∃y∈wsAt (txs ts) (m:Int),∃z∈wsAt (txs ts) (n:Int),y.key=z.key)->P n)(hPj:¬P j)(hCL:∀W,Fr [] w W->Calls prog 29 #[cfV ⟨l,s,x,q⟩,.slice ao L cap,.int .i64 (i:Int),.int .i64 (j:Int)] W fun e w'=>e=.returned (.int .i64 0)/\Fr [] W w')(hSh:∀W,Fr [] w W->Calls prog 30 #[.slice ao j cap] W fun e w'=>e=.returned (.bool true)/\Fr [] W w') :
  Calls prog 8 #[cfV ⟨l,s,x,q⟩,.slice ao L cap,.int .i64 (i:Int),.int .i64 (j:Int)] w fun e w'=>Fr [] w w'/\∃v,e=.returned (.tuple #[v,.int .i64 0])/\PlV w ⟨l,s,x,q⟩ (txs ts) (fun _ _ _=>True) {ms0 with fd:=L} (ApE i j) v w':=by
 obtain⟨w1,HW1⟩:∃w1,Hid (w.alloc (.cells #[.int .i64 l,.int .i64 s,.int .i64 x,.int .i64 q] 23)=w1):=⟨_,rfl⟩;obtain⟨A,HA⟩:∃A,Hid (w.heap.size=A):=⟨_,rfl⟩;have hF1:Fr [] w w1:=by rw[<-HW1.out];exact Fr.alloc [] w _
 have hb1:w1.heap[A]? = some (.cells #[.int .i64 l,.int .i64 s,.int .i64 x,.int .i64 q] 23 (0,0)):=by rw[<-HW1.out,<-HA.out];exact heap_alloc_new _ _
 have HC:Hid (∀W,Fr [] w W->Calls prog 29 #[cfV ⟨l,s,x,q⟩,.slice ao L cap,.int .i64 (i:Int),.int .i64 (j:Int)] W fun e w'=>e=.returned (.int .i64 0)/\Fr [] W w'):=hCL;have HS:Hid (∀W,Fr [] w W->Calls prog 30 #[.slice ao j cap] W fun e w'=>e=.returned (.bool true)/\Fr [] W w'):=hSh;have f0:w1.cell? ⟨A,0,none⟩=some (.int .i64 l):=by rw[crw hb1];rfl
 have f1:w1.cell? ⟨A,1,none⟩=some (.int .i64 s):=by rw[crw hb1];rfl
 have f2:w1.cell? ⟨A,2,none⟩=some (.int .i64 x):=by rw[crw hb1];rfl
 have f3:w1.cell? ⟨A,3,none⟩=some (.int .i64 q):=by rw[crw hb1];rfl
 have HB:Hid (Fr [] w w1/\w1.heap[A]? = some (.cells #[.int .i64 l,.int .i64 s,.int .i64 x,.int .i64 q] 23 (0,0))):=⟨hF1,hb1⟩;have HT:Hid (TRs w ao ts/\L=ts.length/\L<=cap/\okL 1 (txs ts)/\Cf.may ⟨l,s,x,q⟩):=⟨hT,hL,hLc,hok,hc⟩;have HP:Hid (P i/\(∀m n:Nat,P m->m<n->(∃y∈wsAt (txs ts) (m:Int),∃z∈wsAt (txs ts) (n:Int),y.key=z.key)->P n)/\¬P j/\(j:Int)-i<x/\2<=l):=⟨hP,hPs,hPj,hw,hl2⟩;have HC1:Hid (Calls ..):=HC.out w1 hF1;have hL6:L<=65536:=by have:=zcr hok;rw[zaf]at this;omega
 obtain⟨a0,rfl⟩:∃a,ao=some a:=by
  cases ao with
  |some a=>exact⟨a,rfl⟩
  |none=>obtain⟨b,off,e,_⟩:=hT.lies (by omega);cases e
 clear hT hL hok hc hCL hSh hF1 hb1 HC hP hPs hPj hw hl2;have jc:(j:Int)<=(cap:Int):=by omega
 unfold cfV at HC1;unfold cfV;go_enter func8,ntmps8;go_upto_region 1 with fail
 rw[HW1.out,HA.out];clear HW1 HA;go_wp2_with fail
 refine Calls.mono HC1.out ?_;rintro e w2⟨rfl,hf2⟩;have HS2:Hid (Calls ..):=HS.out w2 (HB.out.1.then hf2);have HF2:Hid (Fr [] w w2/\Fr [] w1 w2):=⟨HB.out.1.then hf2,hf2⟩;clear HC1 hf2 HS f0 f1 f2 f3;go_wp2_with fail
 refine Calls.mono HS2.out ?_;rintro e w3⟨rfl,hf3⟩;have HF3:Hid (Fr [] w w3/\Fr [] w1 w3):=⟨HF2.out.1.then hf3,HF2.out.2.then hf3⟩;clear HS2 hf3 HF2;go_wp2_with fail
 refine zgn [24,25,26,27,28,29,30,31,32,33,34,35,36,37,38,39,40,41,42,43,8,9] 44 (aPh w ⟨l,s,x,q⟩ (some a0) L cap i j (txs ts)) (by kernel_rfl) (by kernel_rfl) (by kernel_rfl) rfl zacn ?_ ?_
 .intro k o ho a W hf hsame hdep;have h1:a.eval (.tmp 1)=.slice (some a0) L cap:=(hsame 1 (by decide)).trans rfl;have h2:a.eval (.tmp 2)=.int .i64 (i:Int):=(hsame 2 (by decide)).trans rfl;have h3:a.eval (.tmp 3)=.int .i64 (j:Int):=(hsame 3 (by decide)).trans rfl;have h4:a.eval (.tmp 4)=.pointer (some ⟨A,0,none⟩):=(hsame 4 (by decide)).trans rfl;have hA:=(HF3.out.2.then hf).keep HB.out.2 (by simp)
  match k,ho with
  |0,ho=>
   obtain rfl:=Option.some.inj ho;exact zah (zdy (c:=⟨l,s,x,q⟩) _ rfl h4 hA) ⟨_,rfl,Fr.refl _ _,rfl⟩
  |1,ho=>
   obtain rfl:=Option.some.inj ho;exact zah (zcg (.tmp 1) rfl) ⟨_,rfl,Fr.refl _ _,h1⟩
  |2,ho=>
   obtain rfl:=Option.some.inj ho;exact zah (zdy (c:=⟨l,s,x,q⟩) _ rfl h4 hA) ⟨_,rfl,Fr.refl _ _,rfl⟩
  |3,ho=>
   have hc:a.eval (.tmp 26)=cfV ⟨l,s,x,q⟩:=hdep 2 26 (by kernel_rfl) rfl;obtain rfl:=Option.some.inj ho;refine zbg (zor rfl rfl) ?_;rw[hc];refine Calls.mono (zlx l s x q 1 W) ?_;rintro e w'⟨hf',v,a',b',rfl,hB,_⟩;exact⟨v,rfl,v,rfl,hf',hB.val rfl⟩
  |4,ho=>
   obtain rfl:=Option.some.inj ho;exact zah (zcg (.tmp 2) rfl) ⟨_,rfl,Fr.refl _ _,h2⟩
  |5,ho=>
   have h28:a.eval (.tmp 28)=.int .i64 (i:Int):=hdep 4 28 (by kernel_rfl) rfl;obtain rfl:=Option.some.inj ho;exact zah (zagv rfl rfl h28 ⟨by omega,by omega⟩) ⟨_,rfl,Fr.refl _ _,rfl⟩
  |6,ho=>
   have hn:a.eval (.tmp 29)=.int .i64 ((i:Int)-1):=hdep 5 29 (by kernel_rfl) rfl;obtain rfl:=Option.some.inj ho;refine zbg (zny rfl rfl) ?_;rw[hn];refine Calls.mono (zly ((i:Int)-1) W) ?_;rintro e w'⟨hf',v,a',rfl,hU,_⟩;exact⟨v,rfl,v,rfl,hf',hU.val⟩
  |7,ho=>
   have hb:ByV ⟨l,s,x,q⟩ 0 (a.eval (.tmp 27)) W:=hdep 3 27 (by kernel_rfl) rfl;have hu:UnV false ((i:Int)-1) (a.eval (.tmp 30)) W:=hdep 6 30 (by kernel_rfl) rfl;obtain rfl:=Option.some.inj ho;obtain⟨a',b',e1,e2⟩:=id hb;obtain⟨fb,cb,B,e3,e4⟩:=id hu;refine zah (zkc rfl e1 e3) ⟨_,rfl,Fr.refl _ _,?_⟩;exact⟨_,_,_,_,rfl,e1▸hb,e3▸hu⟩
  |8,ho=>
   obtain rfl:=Option.some.inj ho;exact zah (zdy (c:=⟨l,s,x,q⟩) _ rfl h4 hA) ⟨_,rfl,Fr.refl _ _,rfl⟩
  |9,ho=>
   have hc:a.eval (.tmp 32)=cfV ⟨l,s,x,q⟩:=hdep 8 32 (by kernel_rfl) rfl;obtain rfl:=Option.some.inj ho;refine zbg (zor rfl rfl) ?_;rw[hc];refine Calls.mono (zlx l s x q 1 W) ?_;rintro e w'⟨hf',v,a',b',rfl,hB,_⟩;exact⟨v,rfl,v,rfl,hf',hB.val rfl⟩
  |10,ho=>
   obtain rfl:=Option.some.inj ho;exact zah (zcg (.tmp 2) rfl) ⟨_,rfl,Fr.refl _ _,h2⟩
  |11,ho=>
   have hn:a.eval (.tmp 34)=.int .i64 (i:Int):=hdep 10 34 (by kernel_rfl) rfl;obtain rfl:=Option.some.inj ho;refine zbg (zrg rfl rfl) ?_;rw[hn];refine Calls.mono (znu (i:Int) W) ?_;rintro e w'⟨hf',v,a',rfl,hU,_⟩;exact⟨v,rfl,v,rfl,hf',hU.val⟩
  |12,ho=>
   have hb:ByV ⟨l,s,x,q⟩ 0 (a.eval (.tmp 33)) W:=hdep 9 33 (by kernel_rfl) rfl;have hu:UnV true (i:Int) (a.eval (.tmp 35)) W:=hdep 11 35 (by kernel_rfl) rfl;obtain rfl:=Option.some.inj ho;obtain⟨a',b',e1,e2⟩:=id hb;obtain⟨fb,cb,B,e3,e4⟩:=id hu;refine zah (zkc rfl e1 e3) ⟨_,rfl,Fr.refl _ _,?_⟩;exact⟨_,_,_,_,rfl,e1▸hb,e3▸hu⟩
  |13,ho=>
   obtain rfl:=Option.some.inj ho;exact zah (zdy (c:=⟨l,s,x,q⟩) _ rfl h4 hA) ⟨_,rfl,Fr.refl _ _,rfl⟩
  |14,ho=>
   have hc:a.eval (.tmp 37)=cfV ⟨l,s,x,q⟩:=hdep 13 37 (by kernel_rfl) rfl;obtain rfl:=Option.some.inj ho;refine zbg (zor rfl rfl) ?_;rw[hc];refine Calls.mono (zlx l s x q 2 W) ?_;rintro e w'⟨hf',v,a',b',rfl,hB,_⟩;exact⟨v,rfl,v,rfl,hf',hB.val rfl⟩
  |15,ho=>
   obtain rfl:=Option.some.inj ho;exact zah (zcg (.tmp 3) rfl) ⟨_,rfl,Fr.refl _ _,h3⟩
  |16,ho=>
   have hn:a.eval (.tmp 39)=.int .i64 (j:Int):=hdep 15 39 (by kernel_rfl) rfl;obtain rfl:=Option.some.inj ho;refine zbg (zrg rfl rfl) ?_;rw[hn];refine Calls.mono (znu (j:Int) W) ?_;rintro e w'⟨hf',v,a',rfl,hU,_⟩;exact⟨v,rfl,v,rfl,hf',hU.val⟩
  |17,ho=>
   have hb:ByV ⟨l,s,x,q⟩ 1 (a.eval (.tmp 38)) W:=hdep 14 38 (by kernel_rfl) rfl;have hu:UnV true (j:Int) (a.eval (.tmp 40)) W:=hdep 16 40 (by kernel_rfl) rfl;obtain rfl:=Option.some.inj ho;obtain⟨a',b',e1,e2⟩:=id hb;obtain⟨fb,cb,B,e3,e4⟩:=id hu;refine zah (zkc rfl e1 e3) ⟨_,rfl,Fr.refl _ _,?_⟩;exact⟨_,_,_,_,rfl,e1▸hb,e3▸hu⟩
  |18,ho=>
   obtain⟨fa,ca,fb,cb,e1,e2,e3⟩:GoV ⟨l,s,x,q⟩ 0 false ((i:Int)-1) (a.eval (.tmp 31)) W:=hdep 7 31 (by kernel_rfl) rfl;obtain⟨fc,cc,fd,cd,g1,g2,g3⟩:GoV ⟨l,s,x,q⟩ 0 true (i:Int) (a.eval (.tmp 36)) W:=hdep 12 36 (by kernel_rfl) rfl;obtain⟨fe,ce,ff,cf,k1,k2,k3⟩:GoV ⟨l,s,x,q⟩ 1 true (j:Int) (a.eval (.tmp 41)) W:=hdep 17 41 (by kernel_rfl) rfl;obtain rfl:=Option.some.inj ho;refine zah (zzg rfl e1 g1 k1) ⟨_,rfl,Fr.alloc _ _ _,W.heap.size,rfl,fun m hm=> ?_⟩
   match m,hm with
   |0,_=>exact GlM.of (heap_alloc_new _ _) rfl rfl (e2.keep (Fr.alloc _ _ _)) (e3.keep (Fr.alloc _ _ _))
   |1,_=>exact GlM.of (heap_alloc_new _ _) rfl rfl (g2.keep (Fr.alloc _ _ _)) (g3.keep (Fr.alloc _ _ _))
   |2,_=>exact GlM.of (heap_alloc_new _ _) rfl rfl (k2.keep (Fr.alloc _ _ _)) (k3.keep (Fr.alloc _ _ _))
   |m+3,hm=>exact absurd hm (by omega)
  |19,ho=>
   have hc:a.eval (.tmp 24)=cfV ⟨l,s,x,q⟩:=hdep 0 24 (by kernel_rfl) rfl;have hl:a.eval (.tmp 25)=.slice (some a0) L cap:=hdep 1 25 (by kernel_rfl) rfl;obtain⟨g,hs,hg⟩:GsV ⟨l,s,x,q⟩ 3 zA tkA (nA i j) (a.eval (.tmp 42)) W:=hdep 18 42 (by kernel_rfl) rfl;obtain rfl:=Option.some.inj ho;obtain⟨t1,t2,t3,t4,t5⟩:=HT.out;obtain⟨p1,p2,p3,p4,p5⟩:=HP.out;refine zbg (zrh rfl rfl) ?_;rw[hc,hl,hs];have hwW:=HF3.out.1.then hf;have e3:L=(txs ts).length:=by rw[zaf];exact t2
   refine Calls.mono (znw (R:=fun _ _ _=>True) (I:=aI ⟨l,s,x,q⟩ (txs ts) P i j L) (z:=zA) (tk:=tkA) (N:=nA i j) (t1.keep hwW) t2 t4 t5 (m:=3) (by omega) (Nat.le_refl _) hg (fun m hm=> ?_) (fun m hm s1 k n sh ct h hU=> ?_) ⟨Sr.first (Wf.first t5 t4 e3) (by omega),rfl⟩) ?_
   .match m,hm with
    |0,_=>
     show Gl _ _ 0 (fun _ _ _=>True) (fun s k n sh ct=>Sr _ _ (i-1) s k sh ct/\s.fd=L) (Unt false ((i:Int)-1));rw[zri,show (i:Int)-1=((i-1:Nat):Int) by omega];exact ((znt _ _ (i-1)).weak fun _ _ _ _=>trivial).fd
    |1,_=>
     show Gl _ _ 0 (fun _ _ _=>True) (fun s k n sh ct=>Tk1 _ _ i s k n sh ct/\s.fd=L) (Unt true (i:Int));rw[zrj];exact (zack _ _ i).fd
    |2,_=>
     show Gl _ _ 1 (fun _ _ _=>True) (fun s k n sh ct=>Ap _ _ P i j s k n sh ct/\s.fd=L) (Unt true (j:Int));rw[zrj];exact (zzd _ _ P i j p1 p2 p3 (by omega) p4 p5).fd
    |m+3,hm=>exact absurd hm (by omega)
   .match m,hm with
    |0,_=>
     obtain⟨hS,hfd⟩:Sr ⟨l,s,x,q⟩ (txs ts) (i-1) s1 k sh ct/\s1.fd=L:=h;have hU:s1.ma=(i:Int)-1:=(by simpa[Unt,tkA,nA]using hU);exact⟨⟨hS.again (by omega) (N':=i) ⟨by omega,by omega⟩,by omega,Or.inr (by omega)⟩,hfd⟩
    |1,_=>
     obtain⟨hS,hfd⟩:Tk1 ⟨l,s,x,q⟩ (txs ts) i s1 k n sh ct/\s1.fd=L:=h;have hU:k=4/\n=(i:Int):=(by simpa[Unt,tkA,nA]using hU);exact⟨hS.apart hU (by omega) (by omega),hfd⟩
    |2,_=>
     obtain⟨hS,hfd⟩:Ap ⟨l,s,x,q⟩ (txs ts) P i j s1 k n sh ct/\s1.fd=L:=h;have hU:k=4/\n=(j:Int):=(by simpa[Unt,tkA,nA]using hU);obtain⟨b1,b2,b3⟩:=hS.fin hU p5;exact⟨b1,b2,b3,hS.r.1⟩
    |m+3,hm=>exact absurd hm (by omega)
   .rintro e w'⟨hf',v,xs,s',rfl,k1,k2,k3,k4⟩;exact⟨v,rfl,v,rfl,hf',xs,s',k1,k2,k3,fun b hb=>by have:=k4 b hb;have:=hwW.size;omega⟩
  |20,ho=>
   have hp:PlV w ⟨l,s,x,q⟩ (txs ts) (fun _ _ _=>True) {ms0 with fd:=L} (ApE i j) (a.eval (.tmp 43)) W:=hdep 19 43 (by kernel_rfl) rfl;obtain rfl:=Option.some.inj ho;exact zah (zbo (.tmp 43) rfl) ⟨_,rfl,Fr.refl _ _,hp⟩
  |21,ho=>
   obtain rfl:=Option.some.inj ho;exact zah (zbo _ rfl) ⟨_,rfl,Fr.refl _ _,rfl⟩
  |n+22,ho=>exact absurd ho (by simp)
 intro a W hf hdf hP;have p4:PlV w ⟨l,s,x,q⟩ (txs ts) (fun _ _ _=>True) {ms0 with fd:=L} (ApE i j) (a.tmps.getD 8 undef) W:=hP 20 8 rfl;have p5:a.tmps.getD 9 undef=.int .i64 0:=hP 21 9 rfl;have hF:Fr [] w W:=HF3.out.1.then hf;rename_i hK;refine hK _ _ ?_;go_wp2_with fail
 refine bodyPost_ret (results_tmp2 rfl _ _ _) (hdf.trans rfl) ?_;exact⟨hF,_,by rw[p5],p4⟩
end
theorem znz(ts:List Tm):∀k,k<=ts.length->sumI (stL (ts.take k) [])=(rdS (txs ts) k:Int)
 |0,_=>by simp[stL,sumI,rdS]
 |k+1,h=>by
  have hs:∀a b:List Tm,stL (a++b) []=stL a []++stL b []:=by
   intro a b;induction a with
   |nil=>rfl
   |cons t r ih=>simp only[List.cons_append,stL,nxt,hits];simpa using ih
  rw[zex ts k h,hs,zkz,znz ts k (by omega),rdS];have e:wsAt (txs ts) ((k+1:Nat):Int)=(ts.getD k Tm.zero).ws:=by
   unfold wsAt txs;rw[show (((k+1:Nat):Int)-1).toNat=k by omega];have hk:k<ts.length:=by omega
   simp[List.getD,hk,Tm.tx]
  unfold cst;rw[e];simp[stL,sumI,hits,tnC]
section
variable{w:World}{l s x q:Int}{ao:Option Addr}{L cap:Nat}{ts:List Tm}
def ClP(c:Cf)(T:List Tx)(r:Int):Prop:=(¬c.may/\r=7)\/(c.may/\¬okL 1 T/\r=1)\/(c.may/\okL 1 T/\r=0)
theorem zjn(w:World)(hT:TRs w ao ts)(hL:L=ts.length)(hcap:L<=cap)(hok:okL 1 (txs ts)):Calls prog 30 #[.slice ao L cap] w fun e w'=>(∃b:Bool,e=.returned (.bool b)/\(b=true↔rdS (txs ts) L<=65536))/\Fr [] w w':=by
 have HN:Hid (Calls ..):=zagz ao L cap ts 0 none 0 0 [] w hT hL hcap ⟨fun h=>by simp at h,by simp⟩ rfl (Nat.le_refl _) ⟨hok,by omega,by omega,trivial⟩;have HE:Hid (sumI (stL (ts.drop 0) [])=(rdS (txs ts) L:Int)):=by
  have:=znz ts L (by omega);rw[hL,List.take_length]at this
  rw[List.drop_zero,hL];exact this
 obtain⟨S,hS⟩:∃S,sumI (stL (ts.drop 0) [])=S:=⟨_,rfl⟩;rw[hS]at HN HE
 clear hT hL hcap hok hS;go_enter func30,ntmps30;go_wp2_with fail
 refine Calls.mono HN.out ?_;rintro e w2⟨rfl,hf⟩;have HF:Hid (Fr [] w w2):=hf;clear hf HN;go_wp2_with fail
 go_ret;exact⟨⟨_,rfl,by have:=HE.out;simp;omega⟩,HF.out⟩
theorem zzn(c:Cf):(c.may/\Cf.err c=0)\/(¬c.may/\Cf.err c=7):=by
 unfold Cf.err;by_cases h:c.may
 .exact Or.inl ⟨h,if_pos h⟩
 exact Or.inr ⟨h,if_neg h⟩
theorem zla(w:World)(hT:TRs w ao ts)(hL:L=ts.length):Calls prog 49 #[cfV ⟨l,s,x,q⟩,.slice ao L cap] w fun e w'=>(∃r:Int,e=.returned (.int .i64 r)/\ClP ⟨l,s,x,q⟩ (txs ts) r)/\Fr [] w w':=by
 obtain⟨w1,HW1⟩:∃w1,Hid (w.alloc (.cells #[.int .i64 l,.int .i64 s,.int .i64 x,.int .i64 q] 23)=w1):=⟨_,rfl⟩;obtain⟨A,HA⟩:∃A,Hid (w.heap.size=A):=⟨_,rfl⟩;have hF1:Fr [] w w1:=by rw[<-HW1.out];exact Fr.alloc [] w _
 have hb1:w1.heap[A]? = some (.cells #[.int .i64 l,.int .i64 s,.int .i64 x,.int .i64 q] 23 (0,0)):=by rw[<-HW1.out,<-HA.out];exact heap_alloc_new _ _
 have f0:w1.cell? ⟨A,0,none⟩=some (.int .i64 l):=by rw[crw hb1];rfl
 have f1:w1.cell? ⟨A,1,none⟩=some (.int .i64 s):=by rw[crw hb1];rfl
 have f2:w1.cell? ⟨A,2,none⟩=some (.int .i64 x):=by rw[crw hb1];rfl
 have f3:w1.cell? ⟨A,3,none⟩=some (.int .i64 q):=by rw[crw hb1];rfl
 have HC:Hid (Calls ..):=zdi l s x q w1;obtain⟨bc,hbc⟩:=Bad.ex (txs ts) 1;have HK:Hid (bc=0↔okL 1 (txs ts)):=Bad.ok hbc;have HL:Hid (∀W,Fr [] w W->Calls prog 78 #[.slice ao L cap] W fun e w'=>e=.returned (.int .i64 (bc:Int))/\Fr [] W w'):=fun W hf=>F.lcheck_any ao L cap bc ts W (hT.keep hf) hL hbc;have HF1:Hid (Fr [] w w1):=hF1;clear hT hL hF1 hb1 hbc;unfold cfV;rcases zzn ⟨l,s,x,q⟩ with⟨hm,he⟩|⟨hm,he⟩
 .rw[he]at HC
  have HM:Hid (Cf.may ⟨l,s,x,q⟩):=hm;clear hm he;by_cases hb:bc=0
  .subst hb;have HO:Hid (okL 1 (txs ts)):=HK.out.1 rfl;clear HK;go_enter func49,ntmps49;go_upto_region 1 with fail
   rw[HW1.out,HA.out];clear HW1 HA;go_wp2_with fail
   refine Calls.mono HC.out ?_;rintro e w2⟨rfl,hf2⟩;have HF2:Hid (Fr [] w w2):=HF1.out.then hf2;have HL2:Hid (Calls ..):=HL.out w2 HF2.out;clear hf2 HC HL f0 f1 f2 f3 HF1;go_wp2_with fail
   refine Calls.mono HL2.out ?_;rintro e w3⟨rfl,hf3⟩;have HF3:Hid (Fr [] w w3):=HF2.out.then hf3;clear hf3 HL2;go_wp2_with fail
   go_ret;exact⟨⟨0,rfl,Or.inr (Or.inr ⟨HM.out,HO.out,rfl⟩)⟩,HF3.out⟩
  have HO:Hid (¬okL 1 (txs ts)):=fun h=>hb (HK.out.2 h);have hb0:((bc:Int)==0)=false:=by simp[hb]
  clear HK hb;go_enter func49,ntmps49;go_upto_region 1 with fail
  rw[HW1.out,HA.out];clear HW1 HA;go_wp2_with fail
  refine Calls.mono HC.out ?_;rintro e w2⟨rfl,hf2⟩;have HF2:Hid (Fr [] w w2):=HF1.out.then hf2;have HL2:Hid (Calls ..):=HL.out w2 HF2.out;clear hf2 HC HL f0 f1 f2 f3 HF1;go_wp2_with fail
  refine Calls.mono HL2.out ?_;rintro e w3⟨rfl,hf3⟩;have HF3:Hid (Fr [] w w3):=HF2.out.then hf3;clear hf3 HL2;go_wp2_with fail
  go_ret;exact⟨⟨1,rfl,Or.inr (Or.inl ⟨HM.out,HO.out,rfl⟩)⟩,HF3.out⟩
 rw[he]at HC
 have HM:Hid (¬Cf.may ⟨l,s,x,q⟩):=hm;clear hm he HL HK;go_enter func49,ntmps49;go_upto_region 1 with fail
 rw[HW1.out,HA.out];clear HW1 HA;go_wp2_with fail
 refine Calls.mono HC.out ?_;rintro e w2⟨rfl,hf2⟩;have HF2:Hid (Fr [] w w2):=HF1.out.then hf2;clear hf2 HC f0 f1 f2 f3 HF1;go_wp2_with fail
 go_ret;exact⟨⟨7,rfl,Or.inl ⟨HM.out,rfl⟩⟩,HF2.out⟩
end
theorem ztt(ts:List Tm)(i:Nat)(h:i<ts.length):wsAt (txs ts) ((i+1:Nat):Int)=(ts.getD i Tm.zero).ws:=by
 unfold wsAt txs;rw[show (((i+1:Nat):Int)-1).toNat=i by omega];simp[List.getD,h,Tm.tx]
section
variable{w:World}{l s x q:Int}{ao:Option Addr}{L cap F:Nat}{ts:List Tm}
theorem zacr(w:World)(hT:TRs w ao ts)(hL:L=ts.length)(hcap:L<=cap)(hok:okL 1 (txs ts))(hF:F<=L):Calls prog 13 #[.slice ao L cap,.int .i64 (F:Int)] w fun e w'=>e=.returned (.int .i64 (rdS (txs ts) F:Int))/\Fr [] w w':=by
 have hL6:L<=65536:=by have:=zcr hok;rw[zaf]at this;omega
 have HOK:Hid (okL 1 (txs ts)):=hok;have HL:Hid (L=ts.length):=hL;have HB:Hid (∀i:Nat,i<=L->rdS (txs ts) i<=69*i):=fun i hi=>by
  induction i with
  |zero=>simp[rdS]
  |succ i ih=>
   have h1:=ih (by omega);have h2:=((zrm hok).1 _ (zap ts i (by omega))).2.2.1;have h3:=zgx (ts.getD i Tm.zero).ws;rw[rdS];unfold cst;rw[ztt ts i (by omega)];omega
 clear hok hL;go_enter func13,ntmps13;go_wp2_with fail
 go_loopw [5,6] (fun nn ii wr=>∃i N:Nat,nn=.int .i64 (N:Int)/\ii=.int .i64 (i:Int)/\i<=F/\Hid (N=rdS (txs ts) i)/\Hid (Fr [] w wr)) (fun _ ii _=>F-(RowKit.intOf ii).toNat)
 case atStart=>exact⟨0,0,rfl,rfl,Nat.zero_le _,rfl,Fr.refl _ _⟩
 obtain⟨i,N,rfl,rfl,hiF,HN,HF⟩:=hrel;by_cases hi:i<F
 .have hi':i<ts.length:=by rw[<-HL.out];omega
  obtain⟨bb,off,rfl,hbl,hc⟩:=(hT.keep HF.out).lies (by omega);have hx:=hc i hi';have hat:=(hT.keep HF.out).each _ (zap ts i hi');have hws:=(zrm HOK.out).1 _ (zap ts i hi');have hNx:rdS (txs ts) (i+1)=N+tnC (ts.getD i Tm.zero).ws false:=by
   rw[rdS,HN.out];unfold cst tnC;rw[ztt ts i hi'];simp
  have hNb:=HB.out (i+1) (by omega);obtain⟨y,hy⟩:∃y,y=ts.getD i Tm.zero:=⟨_,rfl⟩;rw[<-hy]at hx hat hws hNx
  obtain⟨n,xo,M,cm,ws⟩:=y;obtain⟨c0,c1⟩:=hx;simp only at c0 c1 hws hNx;have HX:Hid (Calls ..):=zzk n xo M cm ws false wr hat
  have HOk:Hid (okT n ws):=hws;have HNx:Hid (rdS (txs ts) (i+1)=N+tnC ws false):=hNx;have HNb:Hid (rdS (txs ts) (i+1)<=69*(i+1)):=hNb;have h1:(i:Int)<(F:Int):=by omega
  clear hy hat hws hNx hNb hc HN;go_wp2_with fail
  refine Calls.mono HX.out ?_;rintro e w2⟨r,cc,rfl,hP,hf⟩;obtain⟨rfl,rfl⟩:r=(tnC ws false:Int)/\cc=0:=by
   rcases hP with⟨_,a,b⟩|⟨a,_⟩
   .exact⟨a,b⟩
   exact absurd HOk.out a
  have HF2:Hid (Fr [] w w2):=HF.out.then hf;obtain⟨D,hD⟩:∃D,tnC ws false=D:=⟨_,rfl⟩;rw[hD]at HNx ⊢
  have hb:N+D<=69*(i+1):=by have h1:=HNx.out;have h2:=HNb.out;omega
  clear hP hf HX c0 c1 hD HNb HF;go_wp2_with fail
  go_roundw;case rel=>exact⟨i+1,N+D,by simp,by simp,by omega,by show _=_;rw[HNx.out],HF2⟩
  case measure=>first|omega|(simp[RowKit.intOf];omega)
 obtain rfl:i=F:=by omega
 clear HB;go_wp2_with fail
 go_ret;exact⟨by rw[HN.out];rfl,HF.out⟩
end
structure CfB(w w1:World)(A:Nat)(l s x q:Int):Prop where
 fr:Fr [] w w1
 row:w1.heap[A]? = some (.cells #[.int .i64 l,.int .i64 s,.int .i64 x,.int .i64 q] 23 (0,0))
theorem CfB.made(w:World)(l s x q:Int):CfB w (w.alloc (.cells #[.int .i64 l,.int .i64 s,.int .i64 x,.int .i64 q] 23)) w.heap.size l s x q:=⟨Fr.alloc [] w _,heap_alloc_new _ _⟩
theorem CfB.cells{w w1 W:World}{A:Nat}{l s x q:Int}(h:CfB w w1 A l s x q)(hf:Fr [] w1 W):W.cell? ⟨A,0,none⟩=some (.int .i64 l)/\W.cell? ⟨A,1,none⟩=some (.int .i64 s)/\W.cell? ⟨A,2,none⟩=some (.int .i64 x)/\W.cell? ⟨A,3,none⟩=some (.int .i64 q):=by
 have hr:=hf.keep h.row (by simp);refine⟨?_,?_,?_,?_⟩<;>(rw[crw hr];rfl)
section
variable{w:World}{l s x q:Int}{ao:Option Addr}{L cap F:Nat}{ts:List Tm}
end
end Go.Proofs.YtaigdcmoecgabaaGreat
