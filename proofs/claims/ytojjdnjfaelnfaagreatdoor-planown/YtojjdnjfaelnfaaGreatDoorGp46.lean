/- Contracts and lemmas. -/
import Derived.Test.YtojjdnjfaelnfaaGreatDoorGp45
set_option maxHeartbeats 8000000
set_option maxRecDepth 100000
set_option linter.unusedSimpArgs false
set_option linter.unusedVariables false
namespace Go.Proofs.YtojjdnjfaelnfaaGreatDoor
open Go.ChangeShapes Go.WideShapes Go.ChangeAt Go.RowKit Go.Lib Go.Proofs.Tryz
theorem zib:∀(dl:List Nat)(vs:List Value),zbt (dl.map some) vs=dl.zip vs
 | [],_=>rfl
 |_::_,[]=>rfl
 |d::r,v::q=>congrArg ((d,v) :: ·) (zib r q)
theorem zod(dl:List Nat)(j:Nat):zan (dl.map some) j=dl[j]? :=by
 unfold zan;rw[List.getElem?_map];cases dl[j]? <;> rfl
section
variable{ops:Array Oper}{P:Program}{Q:Exit->Act->World->Prop}{a0:Act}{w0:World}{id:Nat}
theorem zdg(dl:List Nat)(n:Nat)(Φ:Nat->Value->World->Prop)(hm:P.follows .mixedOrders=true)(hl:lexB ops=true)(hs:zjh ops (dl.map some) n=true)(hz:a0.tmps.size=n)(hk:∀i v w w',Fr [] w w'->Φ i v w->Φ i v w')(hop:∀(i:Nat) (o:Oper),ops[i]? = some o->∀(a:Act) (w:World),Fr [] w0 w->(∀t,t∉dl->a.eval (.tmp t)=a0.eval (.tmp t))->(∀j d,dep ops i j=true->dl[j]? = some d->Φ j (a.eval (.tmp d)) w)->o.wp P a w (fun a' w'=>∃v,a'=a.put o.dst v/\Fr [] w w'/\Φ i v w') Q)(hend:∀(vs:List Value) w,vs.length=dl.length->Fr [] w0 w->(∀j v,vs[j]? = some v->Φ j v w)->Q .normal (puts a0 (dl.zip vs)) w):(Code.region id ops true).wp P Q a0 w0:=by
 refine zfr (dl.map some) n (fun i r B w=>B=[]/\Φ i (r i) w) hm hl hs hz (fun i r r' B w w' hf e _ h=>⟨h.1,by rw[e];exact hk i _ w w' hf h.2⟩) (fun i o ho r a w hf hsame hv hd=> ?_) (fun r B w hf hP _ _=> ?_)
 .refine Oper.wp_mono ?_ (hop i o ho a w hf (fun t ht=>hsame t (by simpa using ht)) (fun j d hj hd'=>by
   obtain⟨B,_,hB⟩:=hd j hj;rw[hv j d hj ((zod dl j).trans hd')];exact hB))
  rintro a' w'⟨v,rfl,hf',hv'⟩;exact⟨v,[],rfl,hf',fun r' e _=>⟨rfl,by rw[e];exact hv'⟩,by simp⟩
 rw[zib];refine hend _ w (by simpa using (zji hs).2.2.1.symm) hf fun j v hv=> ?_;rw[List.getElem?_map]at hv
 cases hj:(List.range ops.size)[j]? with
 |none=>rw[hj]at hv;cases hv
 |some i=>
  obtain⟨h1,h2⟩:=List.getElem?_eq_some_iff.1 hj;rw[hj]at hv
  cases hv;rw[List.getElem_range]at h2
  subst h2;exact (hP _ (by simpa using h1)).2
theorem zgf(dl:List Nat)(n:Nat)(Φ:Nat->Value->World->Prop)(hm:P.follows .mixedOrders=true)(hl:lexB ops=true)(hs:zjh ops (dl.map some) n=true)(hz:a0.tmps.size=n)(hk:∀i v w w',Fr [] w w'->Φ i v w->Φ i v w')(hop:∀(i:Nat) (o:Oper),ops[i]? = some o->∀(a:Act) (w:World),Fr [] w0 w->(∀t,t∉dl->a.eval (.tmp t)=a0.eval (.tmp t))->(∀j d,dep ops i j=true->dl[j]? = some d->Φ j (a.eval (.tmp d)) w)->o.wp P a w (fun a' w'=>∃v,a'=a.put o.dst v/\Fr [] w w'/\Φ i v w') Q)(hend:∀a w,Fr [] w0 w->a.defers=a0.defers->(∀j d,dl[j]? = some d->Φ j (a.tmps.getD d undef) w)->Q .normal a w):(Code.region id ops true).wp P Q a0 w0:=by
 obtain⟨s1,s2,s3,s4⟩:=zji hs;refine zdg dl n Φ hm hl hs hz hk hop fun vs w hlen hf hv=>hend _ w hf (zgg _ _) fun j d hd=> ?_;have hj:j<vs.length:=by rw[hlen];exact (List.getElem?_eq_some_iff.1 hd).1
 have hjo:j<ops.size:=by rw[<-s3,List.length_map,<-hlen];exact hj
 have hn:=zgh (dl.map some) vs (by simp[hlen]) s4;rw[zib]at hn
 have hdn:=(s2 j _ (Array.getElem?_eq_getElem hjo)).2 d (by
  have:=s1 j;unfold zbs at this;rw[Array.getElem?_eq_getElem hjo,zod,hd]at this
  exact this)
 have e:env (puts a0 (dl.zip vs)) d=vs[j]:=zmi a0 _ d _ hn (List.mem_iff_getElem?.2 ⟨j,by simp[List.getElem?_zip_eq_some,hd,hj]⟩) (by rw[hz];exact hdn);have e2:(puts a0 (dl.zip vs)).tmps.getD d undef=vs[j]:=e;rw[e2];exact hv j _ (List.getElem?_eq_getElem hj)
end
section
variable{ρ:Operand->Value}{w:World}{o:Oper}
theorem zdw{c:Cf}{b:Nat}(x:Operand)(ho:o.op=.load 23 x)(hx:ρ x=.pointer (some ⟨b,0,none⟩))(hb:w.heap[b]? = some (.cells #[.int .i64 c.l,.int .i64 c.s,.int .i64 c.w,.int .i64 c.q] 23 (0,0))):(execOp ρ o).run prog w=.ok (.value (.agg #[.int .i64 c.l,.int .i64 c.s,.int .i64 c.w,.int .i64 c.q])) w:=
 zph x ho hx (by rw[crw hb];rfl) (by rw[crw hb];rfl) (by rw[crw hb];rfl) (by rw[crw hb];rfl)
theorem zju{x y:Operand}{fa fb:Nat}{ca cb:Array Value}(ho:o.op=.build 54 #[(0,x),(1,y)])(hx:ρ x=.func (Fn.func fa) #[] ca)(hy:ρ y=.func (Fn.func fb) #[] cb):(execOp ρ o).run prog w=.ok (.value (.agg #[.func (Fn.func fa) #[] ca,.func (Fn.func fb) #[] cb])) w:=by
 obtain⟨d,op,ty,ps,af,gd⟩:=o;simp only at ho;subst ho
 go_simp
theorem zzm{x:Operand}{fa fb:Nat}{ca cb:Array Value}(ho:o.op=.buildSlice 71 1 #[(0,x)])(hx:ρ x=.agg #[.func (Fn.func fa) #[] ca,.func (Fn.func fb) #[] cb]):(execOp ρ o).run prog w=.ok (.value (.slice (some ⟨w.heap.size,0,none⟩) 1 1)) (w.alloc (.cells #[.func (Fn.func fa) #[] ca,.func (Fn.func fb) #[] cb] 54)):=by
 obtain⟨d,op,ty,ps,af,gd⟩:=o;simp only at ho;subst ho
 go_simp
theorem zajf{x:Operand}{ao:Option Addr}{L cap:Nat}(ho:o.op=.call {callee:=.builtin .len,args:=#[x],argTypes:=#[24]})(hx:ρ x=.slice ao L cap):(execOp ρ o).run prog w=.ok (.value (.int .i64 (L:Int))) w:=by
 obtain⟨d,op,ty,ps,af,gd⟩:=o;simp only at ho;subst ho
 go_simp
theorem zpd{x0 x1:Operand}(ho:o.op=.call {callee:=.value (.func 12),args:=#[x0,x1],argTypes:=#[23,3]})(h:ρ (.func 12)=.func (Fn.func 12) #[] #[]):(execOp ρ o).run prog w=.ok (.enter 12 #[ρ x0,ρ x1]) w:=by
 obtain⟨d,op,ty,ps,af,gd⟩:=o;simp only at ho;subst ho
 go_simp
theorem zoe{x0:Operand}(ho:o.op=.call {callee:=.value (.func 13),args:=#[x0],argTypes:=#[3]})(h:ρ (.func 13)=.func (Fn.func 13) #[] #[]):(execOp ρ o).run prog w=.ok (.enter 13 #[ρ x0]) w:=by
 obtain⟨d,op,ty,ps,af,gd⟩:=o;simp only at ho;subst ho
 go_simp
theorem zro{x0:Operand}(ho:o.op=.call {callee:=.value (.func 15),args:=#[x0],argTypes:=#[3]})(h:ρ (.func 15)=.func (Fn.func 15) #[] #[]):(execOp ρ o).run prog w=.ok (.enter 15 #[ρ x0]) w:=by
 obtain⟨d,op,ty,ps,af,gd⟩:=o;simp only at ho;subst ho
 go_simp
theorem zrp{x0 x1 x2:Operand}(ho:o.op=.call {callee:=.value (.func 11),args:=#[x0,x1,x2],argTypes:=#[23,24,71]})(h:ρ (.func 11)=.func (Fn.func 11) #[] #[]):(execOp ρ o).run prog w=.ok (.enter 11 #[ρ x0,ρ x1,ρ x2]) w:=by
 obtain⟨d,op,ty,ps,af,gd⟩:=o;simp only at ho;subst ho
 go_simp
end
def cfV(c:Cf):Value:=.agg #[.int .i64 c.l,.int .i64 c.s,.int .i64 c.w,.int .i64 c.q]
def ByV(c:Cf)(z:Nat)(v:Value)(w:World):Prop:=∃a b,v=.func (Fn.func 60) #[] #[.pointer (some ⟨b,0,none⟩),.pointer (some ⟨a,0,none⟩)]/\w.heap[a]? = some (.cells #[.int .i64 c.l,.int .i64 c.s,.int .i64 c.w,.int .i64 c.q] 23 (0,0))/\w.heap[b]? = some (.cells #[.int .i64 ((z+1:Nat):Int)] 3 (0,0))
def UnV(tk:Bool)(N:Int)(v:Value)(w:World):Prop:=∃fb cb B,v=.func (Fn.func fb) #[] cb/\UnF w N v B tk
def GoV(c:Cf)(z:Nat)(tk:Bool)(N:Int)(v:Value)(w:World):Prop:=∃fa ca fb cb,v=.agg #[.func (Fn.func fa) #[] ca,.func (Fn.func fb) #[] cb]/\ByV c z (.func (Fn.func fa) #[] ca) w/\UnV tk N (.func (Fn.func fb) #[] cb) w
def GsV(c:Cf)(m:Nat)(z:Nat->Nat)(tk:Nat->Bool)(N:Nat->Int)(v:Value)(w:World):Prop:=∃g,v=.slice (some ⟨g,0,none⟩) m m/\∀i,i<m->GlM w c g (z i) (tk i) (N i) i
def PlV(w0:World)(c:Cf)(T:List Tx)(R:Ms->Int->Ms->Prop)(s0:Ms)(J:Ms->Prop)(v:Value)(w:World):Prop:=∃xs s',w.ownsRow 0 3 1 v xs.length (tkC xs)/\Fw c T R s0 xs s'/\J s'/\∀b,v.ownBlock=some b->w0.heap.size<=b
section
variable{c:Cf}{z m:Nat}{tk:Bool}{N:Int}{v:Value}{w w' w0:World}{zs:Nat->Nat}{tks:Nat->Bool}{Ns:Nat->Int}{T:List Tx}{R:Ms->Int->Ms->Prop}{s0:Ms}{J:Ms->Prop}
theorem UnF.keep{B:List Nat}(h:UnF w N v B tk)(hf:Fr [] w w'):UnF w' N v B tk:=by
 cases h with
 |mark a h1 h2 h3=>exact .mark a h1 h2 (hf.keep h3 (by simp))
 |take a h1 h2 h3=>exact .take a h1 h2 (hf.keep h3 (by simp))
theorem ByV.keep(hf:Fr [] w w')(h:ByV c z v w):ByV c z v w':=by
 obtain⟨a,b,h1,h2,h3⟩:=h;exact⟨a,b,h1,hf.keep h2 (by simp),hf.keep h3 (by simp)⟩
theorem UnV.keep(hf:Fr [] w w')(h:UnV tk N v w):UnV tk N v w':=by
 obtain⟨fb,cb,B,h1,h2⟩:=h;exact⟨fb,cb,B,h1,h2.keep hf⟩
theorem GoV.keep(hf:Fr [] w w')(h:GoV c z tk N v w):GoV c z tk N v w':=by
 obtain⟨fa,ca,fb,cb,h1,h2,h3⟩:=h;exact⟨fa,ca,fb,cb,h1,h2.keep hf,h3.keep hf⟩
theorem GsV.keep(hf:Fr [] w w')(h:GsV c m zs tks Ns v w):GsV c m zs tks Ns v w':=by
 obtain⟨g,h1,h2⟩:=h;refine⟨g,h1,fun i hi=> ?_⟩;obtain⟨nv,uv,na,nl,B,cs,a,b,d,e,f,k,l⟩:=h2 i hi;exact⟨nv,uv,na,nl,B,cs,hf.keep a (by simp),b,d,e,hf.keep f (by simp),hf.keep k (by simp),l.keep hf⟩
theorem PlV.keep(hf:Fr [] w w')(h:PlV w0 c T R s0 J v w):PlV w0 c T R s0 J v w':=by
 obtain⟨xs,s',h1,h2⟩:=h;exact⟨xs,s',zaj h1 hf (fun _ _=>by simp),h2⟩
theorem UnF.val{B:List Nat}(h:UnF w N v B tk):UnV tk N v w:=by
 cases h with
 |mark a h1 h2 h3=>exact⟨_,_,B,h1,.mark a h1 h2 h3⟩
 |take a h1 h2 h3=>exact⟨_,_,B,h1,.take a h1 h2 h3⟩
theorem ByF.val{B:List Nat}{lane:Int}(h:ByF w c lane v B)(e:lane=((z+1:Nat):Int)):ByV c z v w:=by
 obtain⟨a,b,h1,_,h2,h3⟩:=h;exact⟨a,b,h1,h2,by rw[<-e];exact h3⟩
theorem zrq(N:Int):Unt false N=fun _ _ m=>m=N:=by funext k n m;simp[Unt]
theorem zrr(N:Int):Unt true N=fun k n _=>k=4/\n=N:=by funext k n m;simp[Unt]
theorem GlM.of{g:Nat}{cs:Array Value}{i:Nat}{nv uv:Value}(hg:w.heap[g]? = some (.cells cs 54 (0,0)))(h0:cs[i*2]? = some nv)(h1:cs[i*2+1]? = some uv)(hb:ByV c z nv w)(hu:UnV tk N uv w):GlM w c g z tk N i:=by
 obtain⟨a,b,e,k1,k2⟩:=hb;obtain⟨fb,cb,B,_,hu⟩:=hu;exact⟨nv,uv,a,b,B,cs,hg,h0,h1,e,k1,k2,hu⟩
end
section
variable{w:World}{l s x q:Int}{ao:Option Addr}{L cap:Nat}{ts:List Tm}
def sPh(w0:World)(c:Cf)(ao:Option Addr)(L cap:Nat)(T:List Tx)(J:Ms->Prop):Nat->Value->World->Prop
 |0,v,w=>v=cfV c
 |1,v,w=>v=.slice ao L cap
 |2,v,w=>v=cfV c
 |3,v,w=>ByV c 0 v w
 |4,v,w=>v=.slice ao L cap
 |5,v,w=>v=.int .i64 (L:Int)
 |6,v,w=>UnV false (L:Int) v w
 |7,v,w=>GoV c 0 false (L:Int) v w
 |8,v,w=>GsV c 1 (fun _=>0) (fun _=>false) (fun _=>(L:Int)) v w
 |9,v,w=>PlV w0 c T R1 {ms0 with fd:=L} J v w
 |10,v,w=>PlV w0 c T R1 {ms0 with fd:=L} J v w
 |11,v,w=>v=.int .i64 0
 |_,_,_=>True
theorem zacq{w0:World}{c:Cf}{T:List Tx}{J:Ms->Prop}:∀i v w w',Fr [] w w'->sPh w0 c ao L cap T J i v w->sPh w0 c ao L cap T J i v w'
 |0,v,w,w',hf,h=>h
 |1,v,w,w',hf,h=>h
 |2,v,w,w',hf,h=>h
 |3,v,w,w',hf,h=>ByV.keep hf h
 |4,v,w,w',hf,h=>h
 |5,v,w,w',hf,h=>h
 |6,v,w,w',hf,h=>UnV.keep hf h
 |7,v,w,w',hf,h=>GoV.keep hf h
 |8,v,w,w',hf,h=>GsV.keep hf h
 |9,v,w,w',hf,h=>PlV.keep hf h
 |10,v,w,w',hf,h=>PlV.keep hf h
 |11,v,w,w',hf,h=>h
 |n+12,v,w,w',hf,h=>trivial
def SrE(c:Cf)(T:List Tx)(L:Nat)(s:Ms):Prop:=s.hv=false/\s.rd=L/\s.ma=(L:Int)/\∀n,¬Opn T s n
theorem Sr.first{c:Cf}{T:List Tx}{L N:Nat}(hW:Wf c T {ms0 with fd:=L})(hN:N<=L):Sr c T N {ms0 with fd:=L} 0 0 0:=Sr.start hW (fun _=>rfl) rfl rfl (fun _=>rfl) (fun _=>id) ⟨Nat.zero_le _,hN⟩
theorem Wf.first{c:Cf}{T:List Tx}{L:Nat}(hc:c.may)(hok:okL 1 T)(hL:L=T.length):Wf c T {ms0 with fd:=L}:=by
 have h:=(Wf.zero hc hok).feed (L:Int);have e1:zbj T ms0.fd (L:Int)=L:=by
  unfold zbj;rw[<-hL,if_neg (by have:ms0.fd=0:=rfl;omega)];omega
 rw[e1]at h
 exact h
def sI(c:Cf)(T:List Tx)(L:Nat):Nat->Ms->Int->Int->Int->Int->Prop
 |0,s,k,n,sh,ct=>Sr c T L s k sh ct
 |_,s,_,_,_,_=>SrE c T L s
theorem zwg(hT:TRs w ao ts)(hL:L=ts.length)(hLc:L<=cap)(hok:okL 1 (txs ts))(hc:Cf.may ⟨l,s,x,q⟩)(hCL:∀W,Fr [] w W->Calls prog 9 #[cfV ⟨l,s,x,q⟩,.slice ao L cap] W fun e w'=>e=.returned (.int .i64 0)/\Fr [] W w')(hSh:∀W,Fr [] w W->Calls prog 10 #[.slice ao L cap] W fun e w'=>e=.returned (.bool true)/\Fr [] W w') :
  Calls prog 4 #[cfV ⟨l,s,x,q⟩,.slice ao L cap] w fun e w'=>Fr [] w w'/\∃v,e=.returned (.tuple #[v,.int .i64 0])/\PlV w ⟨l,s,x,q⟩ (txs ts) R1 {ms0 with fd:=L} (SrE ⟨l,s,x,q⟩ (txs ts) L) v w':=by
 obtain⟨w1,HW1⟩:∃w1,Hid (w.alloc (.cells #[.int .i64 l,.int .i64 s,.int .i64 x,.int .i64 q] 23)=w1):=⟨_,rfl⟩;obtain⟨A,HA⟩:∃A,Hid (w.heap.size=A):=⟨_,rfl⟩;have hF1:Fr [] w w1:=by rw[<-HW1.out];exact Fr.alloc [] w _
 have hb1:w1.heap[A]? = some (.cells #[.int .i64 l,.int .i64 s,.int .i64 x,.int .i64 q] 23 (0,0)):=by rw[<-HW1.out,<-HA.out];exact heap_alloc_new _ _
 have HC:Hid (∀W,Fr [] w W->Calls prog 9 #[cfV ⟨l,s,x,q⟩,.slice ao L cap] W fun e w'=>e=.returned (.int .i64 0)/\Fr [] W w'):=hCL;have HS:Hid (∀W,Fr [] w W->Calls prog 10 #[.slice ao L cap] W fun e w'=>e=.returned (.bool true)/\Fr [] W w'):=hSh;have f0:w1.cell? ⟨A,0,none⟩=some (.int .i64 l):=by rw[crw hb1];rfl
 have f1:w1.cell? ⟨A,1,none⟩=some (.int .i64 s):=by rw[crw hb1];rfl
 have f2:w1.cell? ⟨A,2,none⟩=some (.int .i64 x):=by rw[crw hb1];rfl
 have f3:w1.cell? ⟨A,3,none⟩=some (.int .i64 q):=by rw[crw hb1];rfl
 have HB:Hid (Fr [] w w1/\w1.heap[A]? = some (.cells #[.int .i64 l,.int .i64 s,.int .i64 x,.int .i64 q] 23 (0,0))):=⟨hF1,hb1⟩;have HT:Hid (TRs w ao ts/\L=ts.length/\L<=cap/\okL 1 (txs ts)/\Cf.may ⟨l,s,x,q⟩):=⟨hT,hL,hLc,hok,hc⟩;have HC1:Hid (Calls ..):=HC.out w1 hF1;clear hT hL hLc hok hc hCL hSh hF1 hb1 HC;unfold cfV at HC1;unfold cfV;go_enter func4,ntmps4;go_upto_region 1 with fail
 rw[HW1.out,HA.out];clear HW1 HA;go_wp2_with fail
 refine Calls.mono HC1.out ?_;rintro e w2⟨rfl,hf2⟩;have HS2:Hid (Calls ..):=HS.out w2 (HB.out.1.then hf2);have HF2:Hid (Fr [] w w2/\Fr [] w1 w2):=⟨HB.out.1.then hf2,hf2⟩;clear HC1 hf2 HS f0 f1 f2 f3;go_wp2_with fail
 refine Calls.mono HS2.out ?_;rintro e w3⟨rfl,hf3⟩;have HF3:Hid (Fr [] w w3/\Fr [] w1 w3):=⟨HF2.out.1.then hf3,HF2.out.2.then hf3⟩;clear HS2 hf3 HF2;go_wp2_with fail
 refine zgf [16,17,18,19,20,21,22,23,24,25,4,5] 26 (sPh w ⟨l,s,x,q⟩ ao L cap (txs ts) (SrE ⟨l,s,x,q⟩ (txs ts) L)) (by kernel_rfl) (by kernel_rfl) (by kernel_rfl) rfl zacq ?_ ?_
 .intro i o ho a W hf hsame hdep;have h1:a.eval (.tmp 1)=.slice ao L cap:=(hsame 1 (by decide)).trans rfl;have h2:a.eval (.tmp 2)=.pointer (some ⟨A,0,none⟩):=(hsame 2 (by decide)).trans rfl;have hA:=(HF3.out.2.then hf).keep HB.out.2 (by simp)
  match i,ho with
  |0,ho=>
   obtain rfl:=Option.some.inj ho;exact zag (zdw (c:=⟨l,s,x,q⟩) _ rfl h2 hA) ⟨_,rfl,Fr.refl _ _,rfl⟩
  |1,ho=>
   obtain rfl:=Option.some.inj ho;exact zag (zcg (.tmp 1) rfl) ⟨_,rfl,Fr.refl _ _,h1⟩
  |2,ho=>
   obtain rfl:=Option.some.inj ho;exact zag (zdw (c:=⟨l,s,x,q⟩) _ rfl h2 hA) ⟨_,rfl,Fr.refl _ _,rfl⟩
  |3,ho=>
   have h18:a.eval (.tmp 18)=cfV ⟨l,s,x,q⟩:=hdep 2 18 (by kernel_rfl) rfl;obtain rfl:=Option.some.inj ho;refine zbg (zpd rfl rfl) ?_;rw[h18];refine Calls.mono (zlr l s x q 1 W) ?_;rintro e w'⟨hf',v,a',b',rfl,hB,_⟩;exact⟨v,rfl,v,rfl,hf',hB.val rfl⟩
  |4,ho=>
   obtain rfl:=Option.some.inj ho;exact zag (zcg (.tmp 1) rfl) ⟨_,rfl,Fr.refl _ _,h1⟩
  |5,ho=>
   have h20:a.eval (.tmp 20)=.slice ao L cap:=hdep 4 20 (by kernel_rfl) rfl;obtain rfl:=Option.some.inj ho;exact zag (zajf rfl h20) ⟨_,rfl,Fr.refl _ _,rfl⟩
  |6,ho=>
   have h21:a.eval (.tmp 21)=.int .i64 (L:Int):=hdep 5 21 (by kernel_rfl) rfl;obtain rfl:=Option.some.inj ho;refine zbg (zoe rfl rfl) ?_;rw[h21];refine Calls.mono (zls (L:Int) W) ?_;rintro e w'⟨hf',v,a',rfl,hU,_⟩;exact⟨v,rfl,v,rfl,hf',hU.val⟩
  |7,ho=>
   have h19:ByV ⟨l,s,x,q⟩ 0 (a.eval (.tmp 19)) W:=hdep 3 19 (by kernel_rfl) rfl;have h22:UnV false (L:Int) (a.eval (.tmp 22)) W:=hdep 6 22 (by kernel_rfl) rfl;obtain rfl:=Option.some.inj ho;obtain⟨a',b',e1,e2⟩:=id h19;obtain⟨fb,cb,B,e3,e4⟩:=id h22;refine zag (zju rfl e1 e3) ⟨_,rfl,Fr.refl _ _,?_⟩;exact⟨_,_,_,_,rfl,e1▸h19,e3▸h22⟩
  |8,ho=>
   obtain⟨fa,ca,fb,cb,e1,e2,e3⟩:GoV ⟨l,s,x,q⟩ 0 false (L:Int) (a.eval (.tmp 23)) W:=hdep 7 23 (by kernel_rfl) rfl;obtain rfl:=Option.some.inj ho;refine zag (zzm rfl e1) ⟨_,rfl,Fr.alloc _ _ _,W.heap.size,rfl,fun i hi=> ?_⟩;obtain rfl:i=0:=by omega
   exact GlM.of (heap_alloc_new _ _) rfl rfl (e2.keep (Fr.alloc _ _ _)) (e3.keep (Fr.alloc _ _ _))
  |9,ho=>
   have h16:a.eval (.tmp 16)=cfV ⟨l,s,x,q⟩:=hdep 0 16 (by kernel_rfl) rfl;have h17:a.eval (.tmp 17)=.slice ao L cap:=hdep 1 17 (by kernel_rfl) rfl;obtain⟨g,h24,hg⟩:GsV ⟨l,s,x,q⟩ 1 (fun _=>0) (fun _=>false) (fun _=>(L:Int)) (a.eval (.tmp 24)) W:=hdep 8 24 (by kernel_rfl) rfl;obtain rfl:=Option.some.inj ho;obtain⟨t1,t2,t3,t4,t5⟩:=HT.out;refine zbg (zrp rfl rfl) ?_;rw[h16,h17,h24];have hwW:=HF3.out.1.then hf;have e3:L=(txs ts).length:=by rw[zah];exact t2
   refine Calls.mono (zoc (R:=R1) (I:=sI ⟨l,s,x,q⟩ (txs ts) L) (t1.keep hwW) t2 t4 t5 (m:=1) (by omega) (Nat.le_refl _) hg (fun i hi=> ?_) (fun i hi s1 k n sh ct h hU=> ?_) (Sr.first (Wf.first t5 t4 e3) (Nat.le_refl _))) ?_
   .obtain rfl:i=0:=(by omega);show Gl _ _ 0 R1 (sI _ _ L 0) (Unt false (L:Int));rw[zrq];exact znz _ _ L
   .obtain rfl:i=0:=(by omega);have hU:s1.ma=(L:Int):=(by simpa[Unt]using hU);have hS:Sr ⟨l,s,x,q⟩ (txs ts) L s1 k sh ct:=h;obtain⟨a1,a2,_,a3⟩:=hS.fin hU;exact⟨a1,a2,hU,a3⟩
   .rintro e w'⟨hf',v,xs,s',rfl,k1,k2,k3,k4⟩;exact⟨v,rfl,v,rfl,hf',xs,s',k1,k2,k3,fun b hb=>by have:=k4 b hb;have:=hwW.size;omega⟩
  |10,ho=>
   have h25:PlV w ⟨l,s,x,q⟩ (txs ts) R1 {ms0 with fd:=L} (SrE ⟨l,s,x,q⟩ (txs ts) L) (a.eval (.tmp 25)) W:=hdep 9 25 (by kernel_rfl) rfl;obtain rfl:=Option.some.inj ho;exact zag (zbp (.tmp 25) rfl) ⟨_,rfl,Fr.refl _ _,h25⟩
  |11,ho=>
   obtain rfl:=Option.some.inj ho;exact zag (zbp _ rfl) ⟨_,rfl,Fr.refl _ _,rfl⟩
  |n+12,ho=>exact absurd ho (by simp)
 intro a W hf hdf hP;have p4:PlV w ⟨l,s,x,q⟩ (txs ts) R1 {ms0 with fd:=L} (SrE ⟨l,s,x,q⟩ (txs ts) L) (a.tmps.getD 4 undef) W:=hP 10 4 rfl;have p5:a.tmps.getD 5 undef=.int .i64 0:=hP 11 5 rfl;have hF:Fr [] w W:=HF3.out.1.then hf;rename_i hK;refine hK _ _ ?_;go_wp2_with fail
 refine bodyPost_ret (results_tmp2 rfl _ _ _) (hdf.trans rfl) ?_;exact⟨hF,_,by rw[p5],p4⟩
end
theorem zzn{ρ:Operand->Value}{w:World}{o:Oper}{x y z:Operand}{fa fb fc fd fe ff:Nat}{ca cb cc cd ce cf:Array Value}(ho:o.op=.buildSlice 71 3 #[(0,x),(1,y),(2,z)])(hx:ρ x=.agg #[.func (Fn.func fa) #[] ca,.func (Fn.func fb) #[] cb])(hy:ρ y=.agg #[.func (Fn.func fc) #[] cc,.func (Fn.func fd) #[] cd])(hz:ρ z=.agg #[.func (Fn.func fe) #[] ce,.func (Fn.func ff) #[] cf]):(execOp ρ o).run prog w=.ok (.value (.slice (some ⟨w.heap.size,0,none⟩) 3 3)) (w.alloc (.cells #[.func (Fn.func fa) #[] ca,.func (Fn.func fb) #[] cb,.func (Fn.func fc) #[] cc,.func (Fn.func fd) #[] cd,.func (Fn.func fe) #[] ce,.func (Fn.func ff) #[] cf] 54)):=by
 obtain⟨d,op,ty,ps,af,gd⟩:=o;simp only at ho;subst ho
 go_simp
theorem zagu{ρ:Operand->Value}{w:World}{o:Oper}{x:Operand}{n:Int}(ho:o.op=.binOp .sub 3 x (.const (.int .i64 1)) 3)(hc:ρ (.const (.int .i64 1))=.int .i64 1)(hx:ρ x=.int .i64 n)(hn:1<=n/\n<=65536):(execOp ρ o).run prog w=.ok (.value (.int .i64 (n-1))) w:=by
 obtain⟨d,op,ty,ps,af,gd⟩:=o;simp only at ho;subst ho;have hw:IntKind.i64.wrap (n-1)=n-1:=by
  rw[IntKind.wrap_i64];omega
 go_simp
def ApE(i j:Nat)(s:Ms):Prop:=(∃l,s.ln 0=some ⟨(i:Int),l,0⟩)/\(∃l,s.ln 1=some ⟨(j:Int),l,0⟩)/\s.ma<(i:Int)/\s.rd<=j
def zA:Nat->Nat|2=>1|_=>0
def tkA:Nat->Bool|0=>false|_=>true
def nA(i j:Nat):Nat->Int|0=>(i:Int)-1|1=>(i:Int)|_=>(j:Int)
def aI(c:Cf)(T:List Tx)(P:Nat->Prop)(i j L:Nat):Nat->Ms->Int->Int->Int->Int->Prop
 |0,s,k,n,sh,ct=>Sr c T (i-1) s k sh ct/\s.fd=L
 |1,s,k,n,sh,ct=>Tk1 c T i s k n sh ct/\s.fd=L
 |2,s,k,n,sh,ct=>Ap c T P i j s k n sh ct/\s.fd=L
 |_,s,_,_,_,_=>ApE i j s
theorem Gl.fd{c:Cf}{T:List Tx}{z L:Nat}{R:Ms->Int->Ms->Prop}{I:Ms->Int->Int->Int->Int->Prop}{U:Int->Int->Int->Prop}(h:Gl c T z R I U):Gl c T z R (fun s k n sh ct=>I s k n sh ct/\s.fd=L) U:=⟨fun s k n sh ct hI=>h.wf s k n sh ct hI.1,fun s k n sh ct hI hU=>by
 obtain⟨q,a,b,d,e⟩:=h.go s k n sh ct hI.1 hU;refine⟨q,a,b,d,fun k' n' sh' ct' s' hW hr=> ?_⟩;obtain⟨e1,e2⟩:=e k' n' sh' ct' s' hW hr;exact⟨⟨e1,((hr.nu (h.wf s k n sh ct hI.1)).2.2).trans hI.2⟩,e2⟩⟩
section
variable{w:World}{l s x q:Int}{ao:Option Addr}{L cap i j:Nat}{ts:List Tm}{P:Nat->Prop}
def aPh(w0:World)(c:Cf)(ao:Option Addr)(L cap i j:Nat)(T:List Tx):Nat->Value->World->Prop
 |0,v,w=>v=cfV c
 |1,v,w=>v=.slice ao L cap
 |2,v,w=>v=cfV c
 |3,v,w=>ByV c 0 v w
 |4,v,w=>v=.int .i64 (i:Int)
 |5,v,w=>v=.int .i64 ((i:Int)-1)
 |6,v,w=>UnV false ((i:Int)-1) v w
 |7,v,w=>GoV c 0 false ((i:Int)-1) v w
 |8,v,w=>v=cfV c
 |9,v,w=>ByV c 0 v w
 |10,v,w=>v=.int .i64 (i:Int)
 |11,v,w=>UnV true (i:Int) v w
 |12,v,w=>GoV c 0 true (i:Int) v w
 |13,v,w=>v=cfV c
 |14,v,w=>ByV c 1 v w
 |15,v,w=>v=.int .i64 (j:Int)
 |16,v,w=>UnV true (j:Int) v w
 |17,v,w=>GoV c 1 true (j:Int) v w
 |18,v,w=>GsV c 3 zA tkA (nA i j) v w
 |19,v,w=>PlV w0 c T (fun _ _ _=>True) {ms0 with fd:=L} (ApE i j) v w
 |20,v,w=>PlV w0 c T (fun _ _ _=>True) {ms0 with fd:=L} (ApE i j) v w
 |21,v,w=>v=.int .i64 0
 |_,_,_=>True
theorem zacr{w0:World}{c:Cf}{T:List Tx}:∀k v w w',Fr [] w w'->aPh w0 c ao L cap i j T k v w->aPh w0 c ao L cap i j T k v w'
 |0,v,w,w',hf,h=>h
 |1,v,w,w',hf,h=>h
 |2,v,w,w',hf,h=>h
 |3,v,w,w',hf,h=>ByV.keep hf h
 |4,v,w,w',hf,h=>h
 |5,v,w,w',hf,h=>h
 |6,v,w,w',hf,h=>UnV.keep hf h
 |7,v,w,w',hf,h=>GoV.keep hf h
 |8,v,w,w',hf,h=>h
 |9,v,w,w',hf,h=>ByV.keep hf h
 |10,v,w,w',hf,h=>h
 |11,v,w,w',hf,h=>UnV.keep hf h
 |12,v,w,w',hf,h=>GoV.keep hf h
 |13,v,w,w',hf,h=>h
 |14,v,w,w',hf,h=>ByV.keep hf h
 |15,v,w,w',hf,h=>h
 |16,v,w,w',hf,h=>UnV.keep hf h
 |17,v,w,w',hf,h=>GoV.keep hf h
 |18,v,w,w',hf,h=>GsV.keep hf h
 |19,v,w,w',hf,h=>PlV.keep hf h
 |20,v,w,w',hf,h=>PlV.keep hf h
 |21,v,w,w',hf,h=>h
 |n+22,v,w,w',hf,h=>trivial
theorem zzo(hT:TRs w ao ts)(hL:L=ts.length)(hLc:L<=cap)(hok:okL 1 (txs ts))(hc:Cf.may ⟨l,s,x,q⟩)(hij:1<=i/\i<j/\j<=L)(hw:(j:Int)-i<x)(hl2:2<=l)(hP:P i)(hPs:∀m n:Nat,P m->m<n->(∃y∈wsAt (txs ts) (m:Int),∃z∈wsAt (txs ts) (n:Int),y.key=z.key)->P n)(hPj:¬P j)(hCL:∀W,Fr [] w W->Calls prog 14 #[cfV ⟨l,s,x,q⟩,.slice ao L cap,.int .i64 (i:Int),.int .i64 (j:Int)] W fun e w'=>e=.returned (.int .i64 0)/\Fr [] W w')(hSh:∀W,Fr [] w W->Calls prog 10 #[.slice ao j cap] W fun e w'=>e=.returned (.bool true)/\Fr [] W w') :
  Calls prog 5 #[cfV ⟨l,s,x,q⟩,.slice ao L cap,.int .i64 (i:Int),.int .i64 (j:Int)] w fun e w'=>Fr [] w w'/\∃v,e=.returned (.tuple #[v,.int .i64 0])/\PlV w ⟨l,s,x,q⟩ (txs ts) (fun _ _ _=>True) {ms0 with fd:=L} (ApE i j) v w':=by
 obtain⟨w1,HW1⟩:∃w1,Hid (w.alloc (.cells #[.int .i64 l,.int .i64 s,.int .i64 x,.int .i64 q] 23)=w1):=⟨_,rfl⟩;obtain⟨A,HA⟩:∃A,Hid (w.heap.size=A):=⟨_,rfl⟩;have hF1:Fr [] w w1:=by rw[<-HW1.out];exact Fr.alloc [] w _
 have hb1:w1.heap[A]? = some (.cells #[.int .i64 l,.int .i64 s,.int .i64 x,.int .i64 q] 23 (0,0)):=by rw[<-HW1.out,<-HA.out];exact heap_alloc_new _ _
 have HC:Hid (∀W,Fr [] w W->Calls prog 14 #[cfV ⟨l,s,x,q⟩,.slice ao L cap,.int .i64 (i:Int),.int .i64 (j:Int)] W fun e w'=>e=.returned (.int .i64 0)/\Fr [] W w'):=hCL;have HS:Hid (∀W,Fr [] w W->Calls prog 10 #[.slice ao j cap] W fun e w'=>e=.returned (.bool true)/\Fr [] W w'):=hSh;have f0:w1.cell? ⟨A,0,none⟩=some (.int .i64 l):=by rw[crw hb1];rfl
 have f1:w1.cell? ⟨A,1,none⟩=some (.int .i64 s):=by rw[crw hb1];rfl
 have f2:w1.cell? ⟨A,2,none⟩=some (.int .i64 x):=by rw[crw hb1];rfl
 have f3:w1.cell? ⟨A,3,none⟩=some (.int .i64 q):=by rw[crw hb1];rfl
 have HB:Hid (Fr [] w w1/\w1.heap[A]? = some (.cells #[.int .i64 l,.int .i64 s,.int .i64 x,.int .i64 q] 23 (0,0))):=⟨hF1,hb1⟩;have HT:Hid (TRs w ao ts/\L=ts.length/\L<=cap/\okL 1 (txs ts)/\Cf.may ⟨l,s,x,q⟩):=⟨hT,hL,hLc,hok,hc⟩;have HP:Hid (P i/\(∀m n:Nat,P m->m<n->(∃y∈wsAt (txs ts) (m:Int),∃z∈wsAt (txs ts) (n:Int),y.key=z.key)->P n)/\¬P j/\(j:Int)-i<x/\2<=l):=⟨hP,hPs,hPj,hw,hl2⟩;have HC1:Hid (Calls ..):=HC.out w1 hF1;have hL6:L<=65536:=by have:=zdb hok;rw[zah]at this;omega
 obtain⟨a0,rfl⟩:∃a,ao=some a:=by
  cases ao with
  |some a=>exact⟨a,rfl⟩
  |none=>obtain⟨b,off,e,_⟩:=hT.lies (by omega);cases e
 clear hT hL hok hc hCL hSh hF1 hb1 HC hP hPs hPj hw hl2;have jc:(j:Int)<=(cap:Int):=by omega
 unfold cfV at HC1;unfold cfV;go_enter func5,ntmps5;go_upto_region 1 with fail
 rw[HW1.out,HA.out];clear HW1 HA;go_wp2_with fail
 refine Calls.mono HC1.out ?_;rintro e w2⟨rfl,hf2⟩;have HS2:Hid (Calls ..):=HS.out w2 (HB.out.1.then hf2);have HF2:Hid (Fr [] w w2/\Fr [] w1 w2):=⟨HB.out.1.then hf2,hf2⟩;clear HC1 hf2 HS f0 f1 f2 f3;go_wp2_with fail
 refine Calls.mono HS2.out ?_;rintro e w3⟨rfl,hf3⟩;have HF3:Hid (Fr [] w w3/\Fr [] w1 w3):=⟨HF2.out.1.then hf3,HF2.out.2.then hf3⟩;clear HS2 hf3 HF2;go_wp2_with fail
 refine zgf [24,25,26,27,28,29,30,31,32,33,34,35,36,37,38,39,40,41,42,43,8,9] 44 (aPh w ⟨l,s,x,q⟩ (some a0) L cap i j (txs ts)) (by kernel_rfl) (by kernel_rfl) (by kernel_rfl) rfl zacr ?_ ?_
 .intro k o ho a W hf hsame hdep;have h1:a.eval (.tmp 1)=.slice (some a0) L cap:=(hsame 1 (by decide)).trans rfl;have h2:a.eval (.tmp 2)=.int .i64 (i:Int):=(hsame 2 (by decide)).trans rfl;have h3:a.eval (.tmp 3)=.int .i64 (j:Int):=(hsame 3 (by decide)).trans rfl;have h4:a.eval (.tmp 4)=.pointer (some ⟨A,0,none⟩):=(hsame 4 (by decide)).trans rfl;have hA:=(HF3.out.2.then hf).keep HB.out.2 (by simp)
  match k,ho with
  |0,ho=>
   obtain rfl:=Option.some.inj ho;exact zag (zdw (c:=⟨l,s,x,q⟩) _ rfl h4 hA) ⟨_,rfl,Fr.refl _ _,rfl⟩
  |1,ho=>
   obtain rfl:=Option.some.inj ho;exact zag (zcg (.tmp 1) rfl) ⟨_,rfl,Fr.refl _ _,h1⟩
  |2,ho=>
   obtain rfl:=Option.some.inj ho;exact zag (zdw (c:=⟨l,s,x,q⟩) _ rfl h4 hA) ⟨_,rfl,Fr.refl _ _,rfl⟩
  |3,ho=>
   have hc:a.eval (.tmp 26)=cfV ⟨l,s,x,q⟩:=hdep 2 26 (by kernel_rfl) rfl;obtain rfl:=Option.some.inj ho;refine zbg (zpd rfl rfl) ?_;rw[hc];refine Calls.mono (zlr l s x q 1 W) ?_;rintro e w'⟨hf',v,a',b',rfl,hB,_⟩;exact⟨v,rfl,v,rfl,hf',hB.val rfl⟩
  |4,ho=>
   obtain rfl:=Option.some.inj ho;exact zag (zcg (.tmp 2) rfl) ⟨_,rfl,Fr.refl _ _,h2⟩
  |5,ho=>
   have h28:a.eval (.tmp 28)=.int .i64 (i:Int):=hdep 4 28 (by kernel_rfl) rfl;obtain rfl:=Option.some.inj ho;exact zag (zagu rfl rfl h28 ⟨by omega,by omega⟩) ⟨_,rfl,Fr.refl _ _,rfl⟩
  |6,ho=>
   have hn:a.eval (.tmp 29)=.int .i64 ((i:Int)-1):=hdep 5 29 (by kernel_rfl) rfl;obtain rfl:=Option.some.inj ho;refine zbg (zoe rfl rfl) ?_;rw[hn];refine Calls.mono (zls ((i:Int)-1) W) ?_;rintro e w'⟨hf',v,a',rfl,hU,_⟩;exact⟨v,rfl,v,rfl,hf',hU.val⟩
  |7,ho=>
   have hb:ByV ⟨l,s,x,q⟩ 0 (a.eval (.tmp 27)) W:=hdep 3 27 (by kernel_rfl) rfl;have hu:UnV false ((i:Int)-1) (a.eval (.tmp 30)) W:=hdep 6 30 (by kernel_rfl) rfl;obtain rfl:=Option.some.inj ho;obtain⟨a',b',e1,e2⟩:=id hb;obtain⟨fb,cb,B,e3,e4⟩:=id hu;refine zag (zju rfl e1 e3) ⟨_,rfl,Fr.refl _ _,?_⟩;exact⟨_,_,_,_,rfl,e1▸hb,e3▸hu⟩
  |8,ho=>
   obtain rfl:=Option.some.inj ho;exact zag (zdw (c:=⟨l,s,x,q⟩) _ rfl h4 hA) ⟨_,rfl,Fr.refl _ _,rfl⟩
  |9,ho=>
   have hc:a.eval (.tmp 32)=cfV ⟨l,s,x,q⟩:=hdep 8 32 (by kernel_rfl) rfl;obtain rfl:=Option.some.inj ho;refine zbg (zpd rfl rfl) ?_;rw[hc];refine Calls.mono (zlr l s x q 1 W) ?_;rintro e w'⟨hf',v,a',b',rfl,hB,_⟩;exact⟨v,rfl,v,rfl,hf',hB.val rfl⟩
  |10,ho=>
   obtain rfl:=Option.some.inj ho;exact zag (zcg (.tmp 2) rfl) ⟨_,rfl,Fr.refl _ _,h2⟩
  |11,ho=>
   have hn:a.eval (.tmp 34)=.int .i64 (i:Int):=hdep 10 34 (by kernel_rfl) rfl;obtain rfl:=Option.some.inj ho;refine zbg (zro rfl rfl) ?_;rw[hn];refine Calls.mono (zoa (i:Int) W) ?_;rintro e w'⟨hf',v,a',rfl,hU,_⟩;exact⟨v,rfl,v,rfl,hf',hU.val⟩
  |12,ho=>
   have hb:ByV ⟨l,s,x,q⟩ 0 (a.eval (.tmp 33)) W:=hdep 9 33 (by kernel_rfl) rfl;have hu:UnV true (i:Int) (a.eval (.tmp 35)) W:=hdep 11 35 (by kernel_rfl) rfl;obtain rfl:=Option.some.inj ho;obtain⟨a',b',e1,e2⟩:=id hb;obtain⟨fb,cb,B,e3,e4⟩:=id hu;refine zag (zju rfl e1 e3) ⟨_,rfl,Fr.refl _ _,?_⟩;exact⟨_,_,_,_,rfl,e1▸hb,e3▸hu⟩
  |13,ho=>
   obtain rfl:=Option.some.inj ho;exact zag (zdw (c:=⟨l,s,x,q⟩) _ rfl h4 hA) ⟨_,rfl,Fr.refl _ _,rfl⟩
  |14,ho=>
   have hc:a.eval (.tmp 37)=cfV ⟨l,s,x,q⟩:=hdep 13 37 (by kernel_rfl) rfl;obtain rfl:=Option.some.inj ho;refine zbg (zpd rfl rfl) ?_;rw[hc];refine Calls.mono (zlr l s x q 2 W) ?_;rintro e w'⟨hf',v,a',b',rfl,hB,_⟩;exact⟨v,rfl,v,rfl,hf',hB.val rfl⟩
  |15,ho=>
   obtain rfl:=Option.some.inj ho;exact zag (zcg (.tmp 3) rfl) ⟨_,rfl,Fr.refl _ _,h3⟩
  |16,ho=>
   have hn:a.eval (.tmp 39)=.int .i64 (j:Int):=hdep 15 39 (by kernel_rfl) rfl;obtain rfl:=Option.some.inj ho;refine zbg (zro rfl rfl) ?_;rw[hn];refine Calls.mono (zoa (j:Int) W) ?_;rintro e w'⟨hf',v,a',rfl,hU,_⟩;exact⟨v,rfl,v,rfl,hf',hU.val⟩
  |17,ho=>
   have hb:ByV ⟨l,s,x,q⟩ 1 (a.eval (.tmp 38)) W:=hdep 14 38 (by kernel_rfl) rfl;have hu:UnV true (j:Int) (a.eval (.tmp 40)) W:=hdep 16 40 (by kernel_rfl) rfl;obtain rfl:=Option.some.inj ho;obtain⟨a',b',e1,e2⟩:=id hb;obtain⟨fb,cb,B,e3,e4⟩:=id hu;refine zag (zju rfl e1 e3) ⟨_,rfl,Fr.refl _ _,?_⟩;exact⟨_,_,_,_,rfl,e1▸hb,e3▸hu⟩
  |18,ho=>
   obtain⟨fa,ca,fb,cb,e1,e2,e3⟩:GoV ⟨l,s,x,q⟩ 0 false ((i:Int)-1) (a.eval (.tmp 31)) W:=hdep 7 31 (by kernel_rfl) rfl;obtain⟨fc,cc,fd,cd,g1,g2,g3⟩:GoV ⟨l,s,x,q⟩ 0 true (i:Int) (a.eval (.tmp 36)) W:=hdep 12 36 (by kernel_rfl) rfl;obtain⟨fe,ce,ff,cf,k1,k2,k3⟩:GoV ⟨l,s,x,q⟩ 1 true (j:Int) (a.eval (.tmp 41)) W:=hdep 17 41 (by kernel_rfl) rfl;obtain rfl:=Option.some.inj ho;refine zag (zzn rfl e1 g1 k1) ⟨_,rfl,Fr.alloc _ _ _,W.heap.size,rfl,fun m hm=> ?_⟩
   match m,hm with
   |0,_=>exact GlM.of (heap_alloc_new _ _) rfl rfl (e2.keep (Fr.alloc _ _ _)) (e3.keep (Fr.alloc _ _ _))
   |1,_=>exact GlM.of (heap_alloc_new _ _) rfl rfl (g2.keep (Fr.alloc _ _ _)) (g3.keep (Fr.alloc _ _ _))
   |2,_=>exact GlM.of (heap_alloc_new _ _) rfl rfl (k2.keep (Fr.alloc _ _ _)) (k3.keep (Fr.alloc _ _ _))
   |m+3,hm=>exact absurd hm (by omega)
  |19,ho=>
   have hc:a.eval (.tmp 24)=cfV ⟨l,s,x,q⟩:=hdep 0 24 (by kernel_rfl) rfl;have hl:a.eval (.tmp 25)=.slice (some a0) L cap:=hdep 1 25 (by kernel_rfl) rfl;obtain⟨g,hs,hg⟩:GsV ⟨l,s,x,q⟩ 3 zA tkA (nA i j) (a.eval (.tmp 42)) W:=hdep 18 42 (by kernel_rfl) rfl;obtain rfl:=Option.some.inj ho;obtain⟨t1,t2,t3,t4,t5⟩:=HT.out;obtain⟨p1,p2,p3,p4,p5⟩:=HP.out;refine zbg (zrp rfl rfl) ?_;rw[hc,hl,hs];have hwW:=HF3.out.1.then hf;have e3:L=(txs ts).length:=by rw[zah];exact t2
   refine Calls.mono (zoc (R:=fun _ _ _=>True) (I:=aI ⟨l,s,x,q⟩ (txs ts) P i j L) (z:=zA) (tk:=tkA) (N:=nA i j) (t1.keep hwW) t2 t4 t5 (m:=3) (by omega) (Nat.le_refl _) hg (fun m hm=> ?_) (fun m hm s1 k n sh ct h hU=> ?_) ⟨Sr.first (Wf.first t5 t4 e3) (by omega),rfl⟩) ?_
   .match m,hm with
    |0,_=>
     show Gl _ _ 0 (fun _ _ _=>True) (fun s k n sh ct=>Sr _ _ (i-1) s k sh ct/\s.fd=L) (Unt false ((i:Int)-1));rw[zrq,show (i:Int)-1=((i-1:Nat):Int) by omega];exact ((znz _ _ (i-1)).weak fun _ _ _ _=>trivial).fd
    |1,_=>
     show Gl _ _ 0 (fun _ _ _=>True) (fun s k n sh ct=>Tk1 _ _ i s k n sh ct/\s.fd=L) (Unt true (i:Int));rw[zrr];exact (zach _ _ i).fd
    |2,_=>
     show Gl _ _ 1 (fun _ _ _=>True) (fun s k n sh ct=>Ap _ _ P i j s k n sh ct/\s.fd=L) (Unt true (j:Int));rw[zrr];exact (zzg _ _ P i j p1 p2 p3 (by omega) p4 p5).fd
    |m+3,hm=>exact absurd hm (by omega)
   .match m,hm with
    |0,_=>
     obtain⟨hS,hfd⟩:Sr ⟨l,s,x,q⟩ (txs ts) (i-1) s1 k sh ct/\s1.fd=L:=h;have hU:s1.ma=(i:Int)-1:=(by simpa[Unt,tkA,nA]using hU);exact⟨⟨hS.again (by omega) (N':=i) ⟨by omega,by omega⟩,by omega,Or.inr (by omega)⟩,hfd⟩
    |1,_=>
     obtain⟨hS,hfd⟩:Tk1 ⟨l,s,x,q⟩ (txs ts) i s1 k n sh ct/\s1.fd=L:=h;have hU:k=4/\n=(i:Int):=(by simpa[Unt,tkA,nA]using hU);exact⟨hS.apart hU (by omega) (by omega),hfd⟩
    |2,_=>
     obtain⟨hS,hfd⟩:Ap ⟨l,s,x,q⟩ (txs ts) P i j s1 k n sh ct/\s1.fd=L:=h;have hU:k=4/\n=(j:Int):=(by simpa[Unt,tkA,nA]using hU);obtain⟨b1,b2,b3⟩:=hS.fin hU p5;exact⟨b1,b2,b3,hS.r.1⟩
    |m+3,hm=>exact absurd hm (by omega)
   .rintro e w'⟨hf',v,xs,s',rfl,k1,k2,k3,k4⟩;exact⟨v,rfl,v,rfl,hf',xs,s',k1,k2,k3,fun b hb=>by have:=k4 b hb;have:=hwW.size;omega⟩
  |20,ho=>
   have hp:PlV w ⟨l,s,x,q⟩ (txs ts) (fun _ _ _=>True) {ms0 with fd:=L} (ApE i j) (a.eval (.tmp 43)) W:=hdep 19 43 (by kernel_rfl) rfl;obtain rfl:=Option.some.inj ho;exact zag (zbp (.tmp 43) rfl) ⟨_,rfl,Fr.refl _ _,hp⟩
  |21,ho=>
   obtain rfl:=Option.some.inj ho;exact zag (zbp _ rfl) ⟨_,rfl,Fr.refl _ _,rfl⟩
  |n+22,ho=>exact absurd ho (by simp)
 intro a W hf hdf hP;have p4:PlV w ⟨l,s,x,q⟩ (txs ts) (fun _ _ _=>True) {ms0 with fd:=L} (ApE i j) (a.tmps.getD 8 undef) W:=hP 20 8 rfl;have p5:a.tmps.getD 9 undef=.int .i64 0:=hP 21 9 rfl;have hF:Fr [] w W:=HF3.out.1.then hf;rename_i hK;refine hK _ _ ?_;go_wp2_with fail
 refine bodyPost_ret (results_tmp2 rfl _ _ _) (hdf.trans rfl) ?_;exact⟨hF,_,by rw[p5],p4⟩
end
theorem zof(ts:List Tm):∀k,k<=ts.length->sumI (stL (ts.take k) [])=(rdS (txs ts) k:Int)
 |0,_=>by simp[stL,sumI,rdS]
 |k+1,h=>by
  have hs:∀a b:List Tm,stL (a++b) []=stL a []++stL b []:=by
   intro a b;induction a with
   |nil=>rfl
   |cons t r ih=>simp only[List.cons_append,stL,nxt,hits];simpa using ih
  rw[zhh ts k h,hs,zkt,zof ts k (by omega),rdS];have e:wsAt (txs ts) ((k+1:Nat):Int)=(ts.getD k Tm.zero).ws:=by
   unfold wsAt txs;rw[show (((k+1:Nat):Int)-1).toNat=k by omega];have hk:k<ts.length:=by omega
   simp[List.getD,hk,Tm.tx]
  unfold cst;rw[e];simp[stL,sumI,hits,tnC]
section
variable{w:World}{l s x q:Int}{ao:Option Addr}{L cap:Nat}{ts:List Tm}
def ClP(c:Cf)(T:List Tx)(r:Int):Prop:=(¬c.may/\r=7)\/(c.may/\¬okL 1 T/\r=1)\/(c.may/\okL 1 T/\r=0)
theorem zjc(w:World)(hT:TRs w ao ts)(hL:L=ts.length)(hcap:L<=cap)(hok:okL 1 (txs ts)):Calls prog 10 #[.slice ao L cap] w fun e w'=>(∃b:Bool,e=.returned (.bool b)/\(b=true↔rdS (txs ts) L<=65536))/\Fr [] w w':=by
 have HN:Hid (Calls ..):=zagy ao L cap ts 0 none 0 0 [] w hT hL hcap ⟨fun h=>by simp at h,by simp⟩ rfl (Nat.le_refl _) ⟨hok,by omega,by omega,trivial⟩;have HE:Hid (sumI (stL (ts.drop 0) [])=(rdS (txs ts) L:Int)):=by
  have:=zof ts L (by omega);rw[hL,List.take_length]at this
  rw[List.drop_zero,hL];exact this
 obtain⟨S,hS⟩:∃S,sumI (stL (ts.drop 0) [])=S:=⟨_,rfl⟩;rw[hS]at HN HE
 clear hT hL hcap hok hS;go_enter func10,ntmps10;go_wp2_with fail
 refine Calls.mono HN.out ?_;rintro e w2⟨rfl,hf⟩;have HF:Hid (Fr [] w w2):=hf;clear hf HN;go_wp2_with fail
 go_ret;exact⟨⟨_,rfl,by have:=HE.out;simp;omega⟩,HF.out⟩
theorem zajj(c:Cf):(c.may/\Cf.err c=0)\/(¬c.may/\Cf.err c=7):=by
 unfold Cf.err;by_cases h:c.may
 .exact Or.inl ⟨h,if_pos h⟩
 exact Or.inr ⟨h,if_neg h⟩
theorem zku(w:World)(hT:TRs w ao ts)(hL:L=ts.length):Calls prog 9 #[cfV ⟨l,s,x,q⟩,.slice ao L cap] w fun e w'=>(∃r:Int,e=.returned (.int .i64 r)/\ClP ⟨l,s,x,q⟩ (txs ts) r)/\Fr [] w w':=by
 obtain⟨w1,HW1⟩:∃w1,Hid (w.alloc (.cells #[.int .i64 l,.int .i64 s,.int .i64 x,.int .i64 q] 23)=w1):=⟨_,rfl⟩;obtain⟨A,HA⟩:∃A,Hid (w.heap.size=A):=⟨_,rfl⟩;have hF1:Fr [] w w1:=by rw[<-HW1.out];exact Fr.alloc [] w _
 have hb1:w1.heap[A]? = some (.cells #[.int .i64 l,.int .i64 s,.int .i64 x,.int .i64 q] 23 (0,0)):=by rw[<-HW1.out,<-HA.out];exact heap_alloc_new _ _
 have f0:w1.cell? ⟨A,0,none⟩=some (.int .i64 l):=by rw[crw hb1];rfl
 have f1:w1.cell? ⟨A,1,none⟩=some (.int .i64 s):=by rw[crw hb1];rfl
 have f2:w1.cell? ⟨A,2,none⟩=some (.int .i64 x):=by rw[crw hb1];rfl
 have f3:w1.cell? ⟨A,3,none⟩=some (.int .i64 q):=by rw[crw hb1];rfl
 have HC:Hid (Calls ..):=zdh l s x q w1;obtain⟨bc,hbc⟩:=Bad.ex (txs ts) 1;have HK:Hid (bc=0↔okL 1 (txs ts)):=Bad.ok hbc;have HL:Hid (∀W,Fr [] w W->Calls prog 56 #[.slice ao L cap] W fun e w'=>e=.returned (.int .i64 (bc:Int))/\Fr [] W w'):=fun W hf=>F.lcheck_any ao L cap bc ts W (hT.keep hf) hL hbc;have HF1:Hid (Fr [] w w1):=hF1;clear hT hL hF1 hb1 hbc;unfold cfV;rcases zajj ⟨l,s,x,q⟩ with⟨hm,he⟩|⟨hm,he⟩
 .rw[he]at HC
  have HM:Hid (Cf.may ⟨l,s,x,q⟩):=hm;clear hm he;by_cases hb:bc=0
  .subst hb;have HO:Hid (okL 1 (txs ts)):=HK.out.1 rfl;clear HK;go_enter func9,ntmps9;go_upto_region 1 with fail
   rw[HW1.out,HA.out];clear HW1 HA;go_wp2_with fail
   refine Calls.mono HC.out ?_;rintro e w2⟨rfl,hf2⟩;have HF2:Hid (Fr [] w w2):=HF1.out.then hf2;have HL2:Hid (Calls ..):=HL.out w2 HF2.out;clear hf2 HC HL f0 f1 f2 f3 HF1;go_wp2_with fail
   refine Calls.mono HL2.out ?_;rintro e w3⟨rfl,hf3⟩;have HF3:Hid (Fr [] w w3):=HF2.out.then hf3;clear hf3 HL2;go_wp2_with fail
   go_ret;exact⟨⟨0,rfl,Or.inr (Or.inr ⟨HM.out,HO.out,rfl⟩)⟩,HF3.out⟩
  have HO:Hid (¬okL 1 (txs ts)):=fun h=>hb (HK.out.2 h);have hb0:((bc:Int)==0)=false:=by simp[hb]
  clear HK hb;go_enter func9,ntmps9;go_upto_region 1 with fail
  rw[HW1.out,HA.out];clear HW1 HA;go_wp2_with fail
  refine Calls.mono HC.out ?_;rintro e w2⟨rfl,hf2⟩;have HF2:Hid (Fr [] w w2):=HF1.out.then hf2;have HL2:Hid (Calls ..):=HL.out w2 HF2.out;clear hf2 HC HL f0 f1 f2 f3 HF1;go_wp2_with fail
  refine Calls.mono HL2.out ?_;rintro e w3⟨rfl,hf3⟩;have HF3:Hid (Fr [] w w3):=HF2.out.then hf3;clear hf3 HL2;go_wp2_with fail
  go_ret;exact⟨⟨1,rfl,Or.inr (Or.inl ⟨HM.out,HO.out,rfl⟩)⟩,HF3.out⟩
 rw[he]at HC
 have HM:Hid (¬Cf.may ⟨l,s,x,q⟩):=hm;clear hm he HL HK;go_enter func9,ntmps9;go_upto_region 1 with fail
 rw[HW1.out,HA.out];clear HW1 HA;go_wp2_with fail
 refine Calls.mono HC.out ?_;rintro e w2⟨rfl,hf2⟩;have HF2:Hid (Fr [] w w2):=HF1.out.then hf2;clear hf2 HC f0 f1 f2 f3 HF1;go_wp2_with fail
 go_ret;exact⟨⟨7,rfl,Or.inl ⟨HM.out,rfl⟩⟩,HF2.out⟩
end
section
variable{w:World}{l s x q:Int}{ao:Option Addr}{L cap F:Nat}{ts:List Tm}
def SAns(c:Cf)(T:List Tx)(L:Nat)(r:Int):Prop:=(¬c.may/\r=7)\/(c.may/\¬okL 1 T/\r=1)\/(c.may/\okL 1 T/\¬rdS T L<=65536/\r=3)\/(c.may/\okL 1 T/\rdS T L<=65536/\r=0)
end
structure CfB(w w1:World)(A:Nat)(l s x q:Int):Prop where
 fr:Fr [] w w1
 row:w1.heap[A]? = some (.cells #[.int .i64 l,.int .i64 s,.int .i64 x,.int .i64 q] 23 (0,0))
theorem CfB.made(w:World)(l s x q:Int):CfB w (w.alloc (.cells #[.int .i64 l,.int .i64 s,.int .i64 x,.int .i64 q] 23)) w.heap.size l s x q:=⟨Fr.alloc [] w _,heap_alloc_new _ _⟩
theorem CfB.cells{w w1 W:World}{A:Nat}{l s x q:Int}(h:CfB w w1 A l s x q)(hf:Fr [] w1 W):W.cell? ⟨A,0,none⟩=some (.int .i64 l)/\W.cell? ⟨A,1,none⟩=some (.int .i64 s)/\W.cell? ⟨A,2,none⟩=some (.int .i64 x)/\W.cell? ⟨A,3,none⟩=some (.int .i64 q):=by
 have hr:=hf.keep h.row (by simp);refine⟨?_,?_,?_,?_⟩<;>(rw[crw hr];rfl)
section
variable{w:World}{l s x q:Int}{ao:Option Addr}{L cap F:Nat}{ts:List Tm}
def SPl(w0:World)(c:Cf)(T:List Tx)(L:Nat)(e:Ending)(w':World):Prop:=∃v r,e=.returned (.tuple #[v,.int .i64 r])/\SAns c T L r/\(r≠0->v=.slice none 0 0)/\(r=0->PlV w0 c T R1 {ms0 with fd:=L} (SrE c T L) v w')
theorem ztf(w:World)(hT:TRs w ao ts)(hL:L=ts.length)(hcap:L<=cap):Calls prog 4 #[cfV ⟨l,s,x,q⟩,.slice ao L cap] w fun e w'=>Fr [] w w'/\SPl w ⟨l,s,x,q⟩ (txs ts) L e w':=by
 by_cases hg:Cf.may ⟨l,s,x,q⟩/\okL 1 (txs ts)/\rdS (txs ts) L<=65536
 .obtain⟨g1,g2,g3⟩:=hg;refine (zwg hT hL hcap g2 g1 (fun W hf=>(zku W (hT.keep hf) hL).mono ?_) (fun W hf=>(zjc W (hT.keep hf) hL hcap g2).mono ?_)).mono ?_
  .rintro e w'⟨⟨r,rfl,hr⟩,hf⟩;rcases hr with⟨a,_⟩|⟨_,a,_⟩|⟨_,_,rfl⟩
   .exact absurd g1 a
   .exact absurd g2 a
   exact⟨rfl,hf⟩
  .rintro e w'⟨⟨b,rfl,hb⟩,hf⟩;exact⟨by rw[hb.2 g3],hf⟩
  rintro e w'⟨hf,v,rfl,hp⟩;exact⟨hf,v,0,rfl,Or.inr (Or.inr (Or.inr ⟨g1,g2,g3,rfl⟩)),fun h=>absurd rfl h,fun _=>hp⟩
 obtain⟨w1,HW1⟩:∃w1,Hid (w.alloc (.cells #[.int .i64 l,.int .i64 s,.int .i64 x,.int .i64 q] 23)=w1):=⟨_,rfl⟩;obtain⟨A,HA⟩:∃A,Hid (w.heap.size=A):=⟨_,rfl⟩;have HB:Hid (CfB w w1 A l s x q):=by rw[<-HW1.out,<-HA.out];exact CfB.made w l s x q
 obtain⟨f0,f1,f2,f3⟩:=HB.out.cells (Fr.refl _ _);have HC:Hid (Calls ..):=zku (l:=l) (s:=s) (x:=x) (q:=q) (cap:=cap) w1 (hT.keep HB.out.fr) hL;have HS:Hid (okL 1 (txs ts)->∀W,Fr [] w W->Calls prog 10 #[.slice ao L cap] W fun e w'=>(∃b:Bool,e=.returned (.bool b)/\(b=true↔rdS (txs ts) L<=65536))/\Fr [] W w'):=fun ho W hf=>zjc W (hT.keep hf) hL hcap ho;have HG:Hid (¬(Cf.may ⟨l,s,x,q⟩/\okL 1 (txs ts)/\rdS (txs ts) L<=65536)):=hg;clear hT hL hg;unfold cfV at HC;unfold cfV;go_enter func4,ntmps4;go_upto_region 1 with fail
 rw[HW1.out,HA.out];clear HW1 HA;go_wp2_with fail
 refine Calls.mono HC.out ?_;rintro e w2⟨⟨r,rfl,hr⟩,hf2⟩;have HF2:Hid (Fr [] w w2):=HB.out.fr.then hf2;clear hf2 HC f0 f1 f2 f3 HB;rcases hr with⟨a,rfl⟩|⟨a,b,rfl⟩|⟨a,b,rfl⟩
 .have HR:Hid _:=a;clear a HS HG;go_wp2_with fail
  go_ret2;exact⟨HF2.out,_,7,rfl,Or.inl ⟨HR.out,rfl⟩,fun _=>rfl,fun h=>by omega⟩
 .have HR:Hid _:=a;have HR2:Hid _:=b;clear a b HS HG;go_wp2_with fail
  go_ret2;exact⟨HF2.out,_,1,rfl,Or.inr (Or.inl ⟨HR.out,HR2.out,rfl⟩),fun _=>rfl,fun h=>by omega⟩
 have HR:Hid _:=a;have HR2:Hid _:=b;have HS2:Hid (Calls ..):=HS.out b w2 HF2.out;clear a b HS;go_wp2_with fail
 refine Calls.mono HS2.out ?_;rintro e w3⟨⟨b,rfl,hb⟩,hf3⟩;have hnb:¬rdS (txs ts) L<=65536:=fun h=>HG.out ⟨HR.out,HR2.out,h⟩;obtain rfl:b=false:=by
  cases b with
  |false=>rfl
  |true=>exact absurd (hb.1 rfl) hnb
 have HNb:Hid (¬rdS (txs ts) L<=65536):=hnb;have HF3:Hid (Fr [] w w3):=HF2.out.then hf3;clear HS2 hb hnb hf3 HG HF2;go_wp2_with fail
 go_ret2;exact⟨HF3.out,_,3,rfl,Or.inr (Or.inr (Or.inl ⟨HR.out,HR2.out,HNb.out,rfl⟩)),fun _=>rfl,fun h=>by omega⟩
end
def Bnd(c:Cf)(T:List Tx)(L:Nat)(i j:Int):Prop:=okL 1 T/\1<=i/\i<j/\j<=(L:Int)/\2<=c.l
def CpP(c:Cf)(T:List Tx)(L:Nat)(i j r:Int):Prop:=(¬c.may/\r=7)\/(c.may/\¬Bnd c T L i j/\r=1)\/(c.may/\Bnd c T L i j/\c.w<=j-i/\r=6)\/(c.may/\Bnd c T L i j/\j-i<c.w/\Ch.Rch T i.toNat j.toNat/\r=15)\/(c.may/\Bnd c T L i j/\j-i<c.w/\¬Ch.Rch T i.toNat j.toNat/\r=0)
def AAns(c:Cf)(T:List Tx)(L:Nat)(i j r:Int):Prop:=(r≠0/\CpP c T L i j r)\/(CpP c T L i j 0/\¬rdS T j.toNat<=65536/\r=3)\/(CpP c T L i j 0/\rdS T j.toNat<=65536/\r=0)
theorem CpP.uniq{c:Cf}{T:List Tx}{L:Nat}{i j r r':Int}(h:CpP c T L i j r)(h':CpP c T L i j r'):r=r':=by
 rcases h with⟨a,rfl⟩|⟨a,b,rfl⟩|⟨a,b,d,rfl⟩|⟨a,b,d,e,rfl⟩|⟨a,b,d,e,rfl⟩<;>rcases h' with⟨a',rfl⟩|⟨a',b',rfl⟩|⟨a',b',d',rfl⟩|⟨a',b',d',e',rfl⟩|⟨a',b',d',e',rfl⟩<;>first|rfl|exact absurd a' a|exact absurd a a'|exact absurd b' b|exact absurd b b'|omega|exact absurd e' e|exact absurd e e'
theorem AAns.uniq{c:Cf}{T:List Tx}{L:Nat}{i j r r':Int}(h:AAns c T L i j r)(h':AAns c T L i j r'):r=r':=by
 rcases h with⟨a,b⟩|⟨a,b,rfl⟩|⟨a,b,rfl⟩<;>rcases h' with⟨a',b'⟩|⟨a',b',rfl⟩|⟨a',b',rfl⟩<;>first|rfl|exact b.uniq b'|exact absurd (b.uniq a') a|exact absurd (b'.uniq a) a'|exact absurd b' b|exact absurd b b'
section
variable{w:World}{l s x q i j:Int}{ao:Option Addr}{L cap:Nat}{ts:List Tm}
theorem zoi(w:World)(hT:TRs w ao ts)(hL:L=ts.length)(hcap:L<=cap)(hi:i64 i)(hj:i64 j):Calls prog 14 #[cfV ⟨l,s,x,q⟩,.slice ao L cap,.int .i64 i,.int .i64 j] w fun e w'=>(∃r:Int,e=.returned (.int .i64 r)/\CpP ⟨l,s,x,q⟩ (txs ts) L i j r)/\Fr [] w w':=by
 obtain⟨w1,HW1⟩:∃w1,Hid (w.alloc (.cells #[.int .i64 l,.int .i64 s,.int .i64 x,.int .i64 q] 23)=w1):=⟨_,rfl⟩;obtain⟨A,HA⟩:∃A,Hid (w.heap.size=A):=⟨_,rfl⟩;have HB:Hid (CfB w w1 A l s x q):=by rw[<-HW1.out,<-HA.out];exact CfB.made w l s x q
 obtain⟨f0,f1,f2,f3⟩:=HB.out.cells (Fr.refl _ _);have HBc:Hid (∀W,Fr [] w1 W->_):=fun W hf=>HB.out.cells hf;have HC:Hid (Calls ..):=zku (l:=l) (s:=s) (x:=x) (q:=q) (cap:=cap) w1 (hT.keep HB.out.fr) hL;obtain⟨R,ec,hch⟩:=Ch.ChTold.ex (txs ts) i j;have HCh:Hid (∀W,Fr [] w W->Calls prog 62 #[.slice ao L cap,.int .i64 i,.int .i64 j] W fun e w'=>e=.returned (.tuple #[.bool R,.int .i64 (ec:Int)])/\Fr [] W w'):=fun W hf=>Ch.fChained_any ao L cap i j ec R ts W (hT.keep hf) hL hcap hi.1 hi.2 hj.1 hj.2 hch;have HR:Hid (okL 1 (txs ts)->1<=i/\i<j/\j<=(L:Int)->(R=true↔Ch.Rch (txs ts) i.toNat j.toNat)):=fun ho hb=>by
  rcases hch with⟨a,b,_⟩|⟨_,a,_⟩|⟨_,_,_,a⟩
  .exact absurd (a.ok.2 ho) b
  .rw[zah,<-hL]at a;exact absurd hb a
  exact a
 have HLn:Hid (i64 i/\i64 j):=⟨hi,hj⟩;clear hT hL hcap hch hi hj;unfold cfV at HC;unfold cfV;go_enter func14,ntmps14;go_upto_region 1 with fail
 rw[HW1.out,HA.out];clear HW1 HA;go_wp2_with fail
 refine Calls.mono HC.out ?_;rintro e w2⟨⟨r,rfl,hr⟩,hf2⟩;have HF2:Hid (Fr [] w w2):=HB.out.fr.then hf2;obtain⟨g0,g1,g2,g3⟩:=HBc.out w2 hf2;clear hf2 HC f0 f1 f2 f3 HB HBc;rcases hr with⟨a,rfl⟩|⟨a,b,rfl⟩|⟨a,b,rfl⟩
 .have HMy:Hid _:=a;clear a HR HCh;go_wp2_with fail
  go_ret;exact⟨⟨7,rfl,Or.inl ⟨HMy.out,rfl⟩⟩,HF2.out⟩
 .have HMy:Hid _:=a;have HNo:Hid _:=b;clear a b HR HCh;go_wp2_with fail
  go_ret;exact⟨⟨1,rfl,Or.inr (Or.inl ⟨HMy.out,fun h=>HNo.out h.1,rfl⟩)⟩,HF2.out⟩
 have HMy:Hid _:=a;have HO:Hid _:=b;clear a b;by_cases h1:i<1
 .have H1:Hid (i<1):=h1;clear HR HCh;go_wp2_with fail
  go_ret;exact⟨⟨1,rfl,Or.inr (Or.inl ⟨HMy.out,fun h=>absurd H1.out (by have:=h.2.1;omega),rfl⟩)⟩,HF2.out⟩
 by_cases h2:j<=i
 .have H2:Hid (j<=i):=h2;clear HR HCh;go_wp2_with fail
  go_ret;exact⟨⟨1,rfl,Or.inr (Or.inl ⟨HMy.out,fun h=>absurd H2.out (by have:=h.2.2.1;omega),rfl⟩)⟩,HF2.out⟩
 by_cases h3:(L:Int)<j
 .have H3:Hid ((L:Int)<j):=h3;clear HR HCh;go_wp2_with fail
  go_ret;exact⟨⟨1,rfl,Or.inr (Or.inl ⟨HMy.out,fun h=>absurd H3.out (by have:=h.2.2.2.1;omega),rfl⟩)⟩,HF2.out⟩
 by_cases h4:l<2
 .have H4:Hid (l<2):=h4;clear HR HCh;go_wp2_with fail
  go_ret;exact⟨⟨1,rfl,Or.inr (Or.inl ⟨HMy.out,fun h=>absurd H4.out (by have h5:2<=l:=h.2.2.2.2;omega),rfl⟩)⟩,HF2.out⟩
 have HBn:Hid (Bnd ⟨l,s,x,q⟩ (txs ts) L i j):=⟨HO.out,by omega,by omega,by omega,by show 2<=l;omega⟩;have hw:IntKind.i64.wrap (j-i)=j-i:=by
  have a1:=HLn.out.1.1;have a2:=HLn.out.2.2;rw[IntKind.wrap_i64];omega
 have HRR:Hid (R=true↔Ch.Rch (txs ts) i.toNat j.toNat):=HR.out HO.out ⟨by omega,by omega,by omega⟩;clear HR;by_cases h5:x<=j-i
 .have H5:Hid (x<=j-i):=h5;clear HCh;go_wp2_with fail
  go_ret;exact⟨⟨6,rfl,Or.inr (Or.inr (Or.inl ⟨HMy.out,HBn.out,H5.out,rfl⟩))⟩,HF2.out⟩
 have H5:Hid (j-i<x):=by show j-i<x;omega
 have HC2:Hid (Calls ..):=HCh.out w2 HF2.out;clear HCh;go_wp2_with fail
 refine Calls.mono HC2.out ?_;rintro e w3⟨rfl,hf3⟩;have HF3:Hid (Fr [] w w3):=HF2.out.then hf3;clear hf3 HC2 h1 h2 h3 h4 h5 hw;cases R with
 |true=>
  go_wp2_with fail
  go_ret;exact⟨⟨15,rfl,Or.inr (Or.inr (Or.inr (Or.inl ⟨HMy.out,HBn.out,H5.out,HRR.out.1 (by simp),rfl⟩)))⟩,HF3.out⟩
 |false=>
  go_wp2_with fail
  go_ret;exact⟨⟨0,rfl,Or.inr (Or.inr (Or.inr (Or.inr ⟨HMy.out,HBn.out,H5.out,fun h=>absurd (HRR.out.2 h) (by simp),rfl⟩)))⟩,HF3.out⟩
theorem zrv(T:List Tx)(m:Nat):∀k,k<=m->rdS (T.take m) k=rdS T k
 |0,_=>rfl
 |k+1,h=>by
  rw[rdS,rdS,zrv T m k (by omega)];unfold cst wsAt;have e:(((k+1:Nat):Int)-1).toNat=k:=by omega
  rw[e];simp[List.getD,List.getElem?_take,show k<m by omega]
def APl(w0:World)(c:Cf)(T:List Tx)(L:Nat)(i j:Int)(e:Ending)(w':World):Prop:=∃v r,e=.returned (.tuple #[v,.int .i64 r])/\AAns c T L i j r/\(r≠0->v=.slice none 0 0)/\(r=0->PlV w0 c T (fun _ _ _=>True) {ms0 with fd:=L} (ApE i.toNat j.toNat) v w')
theorem zie(w:World)(hT:TRs w ao ts)(hL:L=ts.length)(hcap:L<=cap)(hi:i64 i)(hj:i64 j):Calls prog 5 #[cfV ⟨l,s,x,q⟩,.slice ao L cap,.int .i64 i,.int .i64 j] w fun e w'=>Fr [] w w'/\APl w ⟨l,s,x,q⟩ (txs ts) L i j e w':=by
 have hSh:CpP ⟨l,s,x,q⟩ (txs ts) L i j 0->∀W,Fr [] w W->Calls prog 10 #[.slice ao j.toNat cap] W fun e w'=>(∃b:Bool,e=.returned (.bool b)/\(b=true↔rdS (txs ts) j.toNat<=65536))/\Fr [] W w':=fun h W hf=>by
  have hb:Bnd ⟨l,s,x,q⟩ (txs ts) L i j:=by
   rcases h with⟨_,h⟩|⟨_,_,h⟩|⟨_,_,_,h⟩|⟨_,_,_,_,h⟩|⟨_,h,_⟩<;>first|exact absurd h (by decide)|exact h
  have hjl:j.toNat<=ts.length:=by have:=hb.2.2.2.1;omega
  have e1:txs (ts.take j.toNat)=(txs ts).take j.toNat:=by simp[txs,List.map_take]
  have h1:=zjc (ts:=ts.take j.toNat) (L:=j.toNat) (cap:=cap) W ((hT.keep hf).take _) (by rw[List.length_take];omega) (by omega) (by rw[e1];exact zaap hb.1 _);rw[e1,zrv _ _ _ (Nat.le_refl _)]at h1
  exact h1
 by_cases hg:CpP ⟨l,s,x,q⟩ (txs ts) L i j 0/\rdS (txs ts) j.toNat<=65536
 .obtain⟨hg,hs⟩:=hg;obtain⟨hm,hb,hw,hr⟩:Cf.may ⟨l,s,x,q⟩/\Bnd ⟨l,s,x,q⟩ (txs ts) L i j/\j-i<x/\¬Ch.Rch (txs ts) i.toNat j.toNat:=by
   rcases hg with⟨_,h⟩|⟨_,_,h⟩|⟨_,_,_,h⟩|⟨_,_,_,_,h⟩|⟨a,b,d,e,_⟩<;>first|exact absurd h (by decide)|exact⟨a,b,d,e⟩
  obtain⟨b1,b2,b3,b4,b5⟩:=id hb;have ei:((i.toNat:Nat):Int)=i:=by omega
  have ej:((j.toNat:Nat):Int)=j:=by omega
  have key:=zzo (w:=w) (l:=l) (s:=s) (x:=x) (q:=q) (ao:=ao) (L:=L) (cap:=cap) (i:=i.toNat) (j:=j.toNat) (ts:=ts) (P:=fun n=>Ch.Rch (txs ts) i.toNat n) hT hL hcap b1 hm ⟨by omega,by omega,by omega⟩ (by omega) b5 .base (fun m n h1 h2 h3=>by
   obtain⟨y,hy,z,hz,e⟩:=h3;refine .step h1 h2 ⟨y.key,⟨y,?_,rfl⟩,⟨z,?_,e.symm⟩⟩
   .unfold wsAt at hy
    rwa [show ((m:Int)-1).toNat=m-1 by omega]at hy
   unfold wsAt at hz
   rwa [show ((n:Int)-1).toNat=n-1 by omega]at hz) hr (fun W hf=> ?_) (fun W hf=> ?_)
  .rw[ei,ej]at key
   refine key.mono ?_;rintro e w'⟨hf,v,rfl,hp⟩;exact⟨hf,v,0,rfl,Or.inr (Or.inr ⟨hg,hs,rfl⟩),fun h=>absurd rfl h,fun _=>hp⟩
  .rw[ei,ej];refine (zoi W (hT.keep hf) hL hcap hi hj).mono ?_;rintro e w'⟨⟨r,rfl,hr⟩,hf'⟩;exact⟨by rw[hr.uniq hg],hf'⟩
  refine (hSh hg W hf).mono ?_;rintro e w'⟨⟨b,rfl,hb⟩,hf'⟩;exact⟨by rw[hb.2 hs],hf'⟩
 obtain⟨w1,HW1⟩:∃w1,Hid (w.alloc (.cells #[.int .i64 l,.int .i64 s,.int .i64 x,.int .i64 q] 23)=w1):=⟨_,rfl⟩;obtain⟨A,HA⟩:∃A,Hid (w.heap.size=A):=⟨_,rfl⟩;have HB:Hid (CfB w w1 A l s x q):=by rw[<-HW1.out,<-HA.out];exact CfB.made w l s x q
 obtain⟨f0,f1,f2,f3⟩:=HB.out.cells (Fr.refl _ _);have HC:Hid (Calls ..):=zoi (l:=l) (s:=s) (x:=x) (q:=q) (cap:=cap) w1 (hT.keep HB.out.fr) hL hcap hi hj;have HS:Hid (CpP ⟨l,s,x,q⟩ (txs ts) L i j 0->∀W,Fr [] w W->_):=hSh;have HG:Hid (¬(CpP ⟨l,s,x,q⟩ (txs ts) L i j 0/\rdS (txs ts) j.toNat<=65536)):=hg;have HTl:Hid (0<L->∃a,ao=some a):=fun h=>by
  obtain⟨b,off,e,_⟩:=hT.lies (by omega);exact⟨_,e⟩
 have HLc:Hid (L<=cap):=hcap;clear hT hL hg hSh hi hj hcap;unfold cfV at HC;unfold cfV;go_enter func5,ntmps5;go_upto_region 1 with fail
 rw[HW1.out,HA.out];clear HW1 HA;go_wp2_with fail
 refine Calls.mono HC.out ?_;rintro e w2⟨⟨r,rfl,hr⟩,hf2⟩;have HF2:Hid (Fr [] w w2):=HB.out.fr.then hf2;have HR:Hid (CpP ⟨l,s,x,q⟩ (txs ts) L i j r):=hr;clear hf2 HC f0 f1 f2 f3 HB hr;by_cases h0:r=0
 .subst h0;obtain⟨b2,b3,b4⟩:1<=i/\i<j/\j<=(L:Int):=by
   rcases HR.out with⟨_,h⟩|⟨_,_,h⟩|⟨_,_,_,h⟩|⟨_,_,_,_,h⟩|⟨_,h,_⟩<;>first|exact absurd h (by decide)|exact⟨h.2.1,h.2.2.1,h.2.2.2.1⟩
  obtain⟨F,rfl⟩:∃F:Nat,j=(F:Int):=⟨j.toNat,by omega⟩;obtain⟨a,rfl⟩:=HTl.out (by omega);have hFc:(F:Int)<=(cap:Int):=by have:=HLc.out;omega
  have HS2:Hid (Calls ..):=HS.out HR.out w2 HF2.out;have eF:(F:Int).toNat=F:=by simp
  rw[eF]at HS2
  clear HS HTl HLc;go_wp2_with fail
  refine Calls.mono HS2.out ?_;rintro e w3⟨⟨b,rfl,hb⟩,hf3⟩;have hnb:¬rdS (txs ts) (F:Int).toNat<=65536:=fun h=>HG.out ⟨HR.out,h⟩;obtain rfl:b=false:=by
   cases b with
   |false=>rfl
   |true=>exact absurd (by rw[eF];exact hb.1 rfl) hnb
  have HNb:Hid (¬rdS (txs ts) (F:Int).toNat<=65536):=hnb;have HF3:Hid (Fr [] w w3):=HF2.out.then hf3;clear HS2 hb hnb hf3 HG HF2 eF;go_wp2_with fail
  go_ret2;exact⟨HF3.out,_,3,rfl,Or.inr (Or.inl ⟨HR.out,HNb.out,rfl⟩),fun _=>rfl,fun h=>by omega⟩
 have hr0:(r != 0)=true:=by simp[h0]
 have hr1:(r==0)=false:=by simp[h0]
 have H0:Hid (r≠0):=h0;clear h0 HS HG HTl HLc;go_wp2_with fail
 go_ret2;exact⟨HF2.out,_,r,rfl,Or.inl ⟨H0.out,HR.out⟩,fun _=>rfl,fun h=>absurd h H0.out⟩
end
end Go.Proofs.YtojjdnjfaelnfaaGreatDoor
