/- Contracts and lemmas. -/
import Derived.Test.YtaigdcmoecgabaaGreatGp43
set_option linter.unusedSimpArgs false
set_option linter.unusedVariables false
namespace Go.Proofs.YtaigdcmoecgabaaGreat
noncomputable def cn (T:List Tx) (n:Int):Nat:=(dd (wsAt T n)).length
noncomputable def rdV (T:List Tx):Nat->Nat
 |0=>0
 |k+1=>rdV T k+cn T ((k+1:Nat):Int)
open Classical in
noncomputable def wtV (T:List Tx) (wt:Int->Prop):Nat->Nat
 |0=>0
 |d+1=>wtV T wt d+(if wt ((d+1:Nat):Int) then cn T ((d+1:Nat):Int) else 0)
noncomputable def liV (T:List Tx):List Int->Nat
 | []=>0
 |n::r=>cn T n+liV T r
theorem zkw(T:List Tx):∀a b:List Int,liV T (a++b)=liV T a+liV T b
 | [],b=>by simp[liV]
 |n::r,b=>by rw[List.cons_append,liV,liV,zkw T r b];omega
theorem zxb(T:List Tx){a b:Nat}(h:a<=b):rdV T a<=rdV T b:=by
 induction b with
 |zero=>rw[show a=0 by omega];exact Nat.le_refl _
 |succ b ih=>
  by_cases e:a=b+1
  .rw[e];exact Nat.le_refl _
  have:=ih (by omega);rw[rdV];omega
def lnV(o:Option Hl):Nat:=match o with|none=>0|some h=>h.l.length+h.out
def sumV(f:Nat->Option Hl):Nat->Nat
 |0=>0
 |n+1=>sumV f n+lnV (f n)
theorem zfe(f:Nat->Option Hl)(i:Nat)(o:Option Hl):∀n,i<n->sumV (upd f i o) n+lnV (f i)=sumV f n+lnV o
 |0,h=>by omega
 |n+1,h=>by
  rw[sumV,sumV];by_cases e:i=n
  .subst e;have:∀m,m<=i->sumV (upd f i o) m=sumV f m:=by
    intro m;induction m with
    |zero=>intro _;rfl
    |succ m ih=>intro hm;rw[sumV,sumV,ih (by omega),zac _ _ (by omega)]
   rw[this i (Nat.le_refl _),zae];omega
  rw[zac _ _ (by omega)];have:=zfe f i o n (by omega);omega
noncomputable def nuV (c:Cf) (T:List Tx) (s:Ms):Nat:=(rdV T s.fd-rdV T s.rd)+(if s.hv=true then cn T (s.rd:Int) else 0)+(wtV T s.wt s.d+liV T s.line)+sumV s.ln c.l.toNat
theorem zff(T:List Tx){wt wt':Int->Prop}:∀d:Nat,(∀n:Int,1<=n->n<=d->(wt n↔wt' n))->wtV T wt d=wtV T wt' d
 |0,_=>rfl
 |d+1,h=>by
  rw[wtV,wtV,zff T d (fun n h1 h2=>h n h1 (by omega))]
  congr 1
  have:=h ((d+1:Nat):Int) (by omega) (Int.le_refl _);by_cases e:wt ((d+1:Nat):Int)
  .rw[if_pos e,if_pos (this.1 e)]
  rw[if_neg e,if_neg (fun x=>e (this.2 x))]
theorem znt(T:List Tx){wt:Int->Prop}:∀d:Nat,(∀n:Int,1<=n->n<=d->¬wt n)->wtV T wt d=0
 |0,_=>rfl
 |d+1,h=>by rw[wtV,znt T d (fun n h1 h2=>h n h1 (by omega)),if_neg (h _ (by omega) (Int.le_refl _))]
theorem zpv(T:List Tx){wt:Int->Prop}{z:Int}:∀d:Nat,1<=z->z<=(d:Int)->wt z->wtV T (fun m=>wt m/\m≠z) d+(cn T z)=wtV T wt d
 |0,h1,h2,_=>by omega
 |d+1,h1,h2,hw=>by
  rw[wtV,wtV];by_cases e:z=((d+1:Nat):Int)
  .rw[if_neg (fun x=>x.2 e.symm),zff T (wt:=fun m=>wt m/\m≠z) (wt':=wt) d (fun n a b=>⟨fun x=>x.1,fun x=>⟨x,by omega⟩⟩),<-e,if_pos hw];omega
  have ih:=zpv T d h1 (by omega) hw;by_cases k:wt ((d+1:Nat):Int)
  .rw[if_pos k,if_pos ⟨k,fun x=>e x.symm⟩];omega
  rw[if_neg k,if_neg (fun x=>k x.1)];omega
theorem znu(T:List Tx){wt:Int->Prop}{d:Nat}:∀zs:List Int,zs.Nodup->(∀m∈zs,wt m/\1<=m/\m<=(d:Int))->wtV T (fun m=>wt m/\m∉zs) d+liV T zs=wtV T wt d
 | [],_,_=>by
  rw[liV,zff T (wt:=fun m=>wt m/\m∉[]) (wt':=wt) d (fun n a b=>⟨fun x=>x.1,fun x=>⟨x,by simp⟩⟩)];omega
 |z::zs,hn,hw=>by
  obtain⟨hz,hn'⟩:=List.nodup_cons.1 hn;have h1:=znu T (wt:=wt) (d:=d) zs hn' (fun m hm=>hw m (List.mem_cons_of_mem _ hm));obtain⟨k1,k2,k3⟩:=hw z List.mem_cons_self;have h2:=zpv T (wt:=fun m=>wt m/\m∉zs) d k2 k3 ⟨k1,hz⟩;rw[zff T (wt:=fun m=>wt m/\m∉z::zs) (wt':=fun m=>(wt m/\m∉zs)/\m≠z) d (fun n a b=>by
   constructor
   .rintro⟨x,y⟩;exact⟨⟨x,fun e=>y (List.mem_cons_of_mem _ e)⟩,fun e=>y (by rw[e];exact List.mem_cons_self)⟩
   rintro⟨⟨x,y⟩,z'⟩;exact⟨x,fun e=>by
    rcases List.mem_cons.1 e with e|e
    .exact z' e
    exact y e⟩)]
  rw[liV];omega
section
variable{c:Cf}{T:List Tx}{s:Ms}
theorem zxc(h:Wf c T s)(hv:s.hv=false)(hr:s.rd<s.fd):nuV c T (zil s)=nuV c T s:=by
 have hm:=zxb T (show s.rd+1<=s.fd by omega);show (rdV T s.fd-rdV T (s.rd+1))+(if true=true then cn T ((s.rd+1:Nat):Int) else 0)+(wtV T s.wt s.d+liV T s.line)+sumV s.ln c.l.toNat=(rdV T s.fd-rdV T s.rd)+(if s.hv=true then cn T (s.rd:Int) else 0)+(wtV T s.wt s.d+liV T s.line)+sumV s.ln c.l.toNat
 rw[hv,if_pos rfl,if_neg (by simp)];rw[rdV]at hm ⊢
 omega
theorem zxd(h:Wf c T s)(hv:s.hv=true):nuV c T (zav T s)=nuV c T s:=by
 have hrd:=h.hol hv;have key:wtV T (zav T s).wt (s.d+1)+liV T (zav T s).line=wtV T s.wt s.d+liV T s.line+cn T (s.rd:Int):=by
  have hno:¬s.wt (s.rd:Int):=fun e=>by have:=(h.op.1 ((h.wait _).1 e).1).1;omega
  have hrd':((s.d+1:Nat):Int)=(s.rd:Int):=by omega
  show wtV T (if zcm T s=[] then s.wt else fun m=>s.wt m\/m=(s.rd:Int)) (s.d+1)+liV T (if zcm T s=[] then s.line++[(s.rd:Int)] else s.line)=_;by_cases e:zcm T s=[]
  .rw[if_pos e,if_pos e,wtV,hrd',if_neg hno,zkw];simp only[liV];omega
  rw[if_neg e,if_neg e,wtV,hrd',if_pos (Or.inr rfl),zff T (wt:=fun m=>s.wt m\/m=(s.rd:Int)) (wt':=s.wt) s.d (fun n h1 h2=>⟨fun x=>x.resolve_right (by omega),Or.inl⟩)];omega
 show (rdV T s.fd-rdV T s.rd)+(if false=true then cn T (s.rd:Int) else 0)+(wtV T (zav T s).wt (s.d+1)+liV T (zav T s).line)+sumV s.ln c.l.toNat=(rdV T s.fd-rdV T s.rd)+(if s.hv=true then cn T (s.rd:Int) else 0)+(wtV T s.wt s.d+liV T s.line)+sumV s.ln c.l.toNat
 rw[key,hv,if_pos rfl,if_neg (by simp)];omega
theorem zxe{i:Nat}(hi:i<c.l.toNat)(hn:s.ln i=none){n:Int}{r:List Int}(hl:s.line=n::r):nuV c T (zen T s i n r)=nuV c T s:=by
 have hs:=zfe s.ln i (some ⟨n,dd (wsAt T n),0⟩) c.l.toNat hi;rw[hn]at hs
 simp only[lnV]at hs;show (rdV T s.fd-rdV T s.rd)+(if s.hv=true then cn T (s.rd:Int) else 0)+(wtV T s.wt s.d+liV T r)+sumV (upd s.ln i (some ⟨n,dd (wsAt T n),0⟩)) c.l.toNat=(rdV T s.fd-rdV T s.rd)+(if s.hv=true then cn T (s.rd:Int) else 0)+(wtV T s.wt s.d+liV T s.line)+sumV s.ln c.l.toNat
 rw[hl,liV];unfold cn;omega
theorem zxf{i:Nat}(hi:i<c.l.toNat){g:Hl}{y:Wt}{r:List Wt}(hn:s.ln i=some g)(hl:g.l=y::r):nuV c T (zbq c s i g y r)=nuV c T s:=by
 have hs:=zfe s.ln i (some ⟨g.n,r,g.out+1⟩) c.l.toNat hi;rw[hn]at hs
 simp only[lnV,hl,List.length_cons]at hs;show (rdV T s.fd-rdV T s.rd)+(if s.hv=true then cn T (s.rd:Int) else 0)+(wtV T s.wt s.d+liV T s.line)+sumV (upd s.ln i (some ⟨g.n,r,g.out+1⟩)) c.l.toNat=(rdV T s.fd-rdV T s.rd)+(if s.hv=true then cn T (s.rd:Int) else 0)+(wtV T s.wt s.d+liV T s.line)+sumV s.ln c.l.toNat
 omega
theorem zxg{i:Nat}(hi:i<c.l.toNat){n:Int}(hn:s.ln i=some ⟨n,[],0⟩):nuV c T (zfk s i n)=nuV c T s:=by
 have hs:=zfe s.ln i none c.l.toNat hi;rw[hn]at hs
 simp only[lnV,List.length_nil]at hs;show (rdV T s.fd-rdV T s.rd)+(if s.hv=true then cn T (s.rd:Int) else 0)+(wtV T s.wt s.d+liV T s.line)+sumV (upd s.ln i none) c.l.toNat=(rdV T s.fd-rdV T s.rd)+(if s.hv=true then cn T (s.rd:Int) else 0)+(wtV T s.wt s.d+liV T s.line)+sumV s.ln c.l.toNat
 omega
theorem zuk(h:Wf c T s){j:Nat}(hj:j<c.s.toNat){e:Qe}{r:List Qe}(hq:s.qs j=e::r){i:Nat}{g:Hl}(hi:i<c.l.toNat)(hf:e.f=((i+1:Nat):Int))(hn:s.ln i=some g)(M':ByteArray->List O.Vn):nuV c T (zaw s j e r g M')+1=nuV c T s:=by
 have hidx:e.f.toNat-1=i:=by omega
 have hs:=zfe s.ln i (some (ackH g)) c.l.toNat hi;have ho:=h.out i g hi hn;have hp:=zjk (q:=s.qs) hj (by rw[hq];simp) hf;rw[hn]at hs
 simp only[lnV,ackH]at hs;show (rdV T s.fd-rdV T s.rd)+(if s.hv=true then cn T (s.rd:Int) else 0)+(wtV T s.wt s.d+liV T s.line)+sumV (upd s.ln (e.f.toNat-1) (some (ackH g))) c.l.toNat+1=(rdV T s.fd-rdV T s.rd)+(if s.hv=true then cn T (s.rd:Int) else 0)+(wtV T s.wt s.d+liV T s.line)+sumV s.ln c.l.toNat
 rw[hidx];unfold ackH;omega
theorem zxh(h:Wf c T s){n:Int}{r:List Int}(hp:s.pass=n::r):nuV c T (zby T s n r)=nuV c T s:=by
 obtain⟨zs,hz⟩:=zuj T s.d s.en n;have hfr:frx (lgT T s.d) s.en n=zs:=zkd hz;have hno:=(h.pass n (by rw[hp];simp)).1;have hw:∀m∈zs,s.wt m/\1<=m/\m<=(s.d:Int):=fun m hm=>by
  obtain⟨h1,h2,_⟩:=(hz.2 m).1 hm;have:=(h.op.1 h1).1;exact⟨(h.wait m).2 ⟨h1,n,hno,h2⟩,this⟩
 have hl:=znu T zs (hz.1.imp (fun hab=>by omega)) hw;show (rdV T s.fd-rdV T s.rd)+(if s.hv=true then cn T (s.rd:Int) else 0)+(wtV T (fun m=>s.wt m/\m∉frx (lgT T s.d) s.en n) s.d+liV T (s.line++frx (lgT T s.d) s.en n))+sumV s.ln c.l.toNat=(rdV T s.fd-rdV T s.rd)+(if s.hv=true then cn T (s.rd:Int) else 0)+(wtV T s.wt s.d+liV T s.line)+sumV s.ln c.l.toNat
 rw[hfr,zkw];omega
theorem zih(f:Nat->Option Hl):∀n,(∀i,i<n->f i=none)->sumV f n=0
 |0,_=>rfl
 |n+1,h=>by rw[sumV,zih f n (fun i hi=>h i (by omega)),h n (by omega)];rfl
theorem zxi(h:Wf c T s)(h1:s.hv=false)(h2:s.rd=s.fd)(h3:∀n,¬Opn T s n):nuV c T s=0:=by
 have e1:s.line=[]:=List.eq_nil_iff_forall_not_mem.2 fun n hn=>h3 n (h.line n hn).1;have e3:wtV T s.wt s.d=0:=znt T s.d fun n _ _ hw=>h3 n ((h.wait n).1 hw).1;have e4:sumV s.ln c.l.toNat=0:=zih _ _ fun i hi=>by
  cases e:s.ln i with
  |none=>rfl
  |some g=>exact absurd (h.lane i g hi e).1 (h3 _)
 unfold nuV;rw[h1,h2,e1,e3,e4,if_neg (by simp)];simp[liV]
theorem Nxe.tells{s':Ms}{t k n sh ct m:Int}(hW:Wf c T s)(h:Nxe c T s s' t k n sh ct m):(k=3->n-m<=c.w)/\(nuV c T s'+(if k=7/\0<n then 1 else 0)=nuV c T s):=by
 obtain⟨q,_,_,hr⟩:=h.r;have hm:=h.em;cases hr with
 |read h1 hv hr hk hn _ _ e=>
  refine⟨fun h3=>by omega,?_⟩;rw[if_neg (fun x=>by omega),e,zxc hW hv hr,Nat.add_zero]
 |disp h1 hv hr hk hn _ _ e=>
  refine⟨fun h3=> ?_,?_⟩
  .have:m=s.ma:=by rw[hm,e];rfl
   omega
  .rw[if_neg (fun x=>by omega),e,zxd hW hv,Nat.add_zero]
 |take i r h1 hi hn hl hk _ _ e=>
  refine⟨fun h3=>by omega,?_⟩;rw[if_neg (fun x=>by omega),e,zxe hi hn hl,Nat.add_zero]
 |send i g y r h1 hi hn hl hq hk hnn _ _ e=>
  refine⟨fun h3=>by omega,?_⟩;rw[if_neg (fun x=>by omega),e,zxf hi hn hl,Nat.add_zero]
 |done i h1 hi hn hk _ _ e=>
  refine⟨fun h3=>by omega,?_⟩;rw[if_neg (fun x=>by omega),e,zxg hi hn,Nat.add_zero]
 |serve j e' r i g M' h1 hj hq hi hf hn hP hk hnn _ _ e=>
  refine⟨fun h3=>by omega,?_⟩;have hb:=(hW.op.1 (hW.lane i g hi hn).1).1;rw[if_pos ⟨hk,by omega⟩,e,zuk hW hj hq hi hf hn M']
 |gate r h1 hp hk _ _ e=>
  refine⟨fun h3=>by omega,?_⟩;rw[if_neg (fun x=>by omega),e,zxh hW hp,Nat.add_zero]
end
end Go.Proofs.YtaigdcmoecgabaaGreat
