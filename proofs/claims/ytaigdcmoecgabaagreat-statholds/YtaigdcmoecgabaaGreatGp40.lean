/- Contracts and lemmas. -/
import Derived.Test.YtaigdcmoecgabaaGreatGp36
import Derived.Test.YtaigdcmoecgabaaGreatGp39
set_option maxHeartbeats 4000000
set_option maxRecDepth 100000
namespace Go.Proofs.YtaigdcmoecgabaaGreat
set_option linter.unusedSimpArgs false
set_option linter.unusedVariables false
section
open Go.ChangeShapes Go.WideShapes Go.ChangeAt Go.RowKit Go.Lib Go.Maps
section
variable{w0 w w':World}{c:Cf}{T:List Tx}{Z:Lay}{s:Ms}
theorem zue(h:MaM w0 w c T Z s){i:Nat}(hi:i<c.l.toNat){g:Hl}(hn:s.ln i=some g)(ho:0<g.out)(f:Int) :
  Calls Tryz.prog 268 #[.pointer (some ⟨Z.z.kw i,0,none⟩),.agg #[.int .i64 f,.bool true,.slice none 0 0,.slice none 0 0,.int .i64 0]] w fun e w'=>e=.returned (.int .i64 g.n)/\Dn w0 c T w Z s w' {Z with S:=upd Z.S i (Z.S i)} {s with ln:=upd s.ln i (some (ackH g))}:=by
 obtain⟨w1,HW1⟩:∃w1,Hid (w.alloc (.cells #[.int .i64 f,.bool true,.slice none 0 0,.slice none 0 0,.int .i64 0] 394)=w1):=⟨_,rfl⟩;have hF1:Fr [] w w1:=by rw[<-HW1.out];exact Fr.alloc _ _ _
 have h1:=h.quiet hF1;have c2:w1.cell? ⟨Z.z.kw i,2,none⟩=some (.pointer (some ⟨Z.z.la i,0,none⟩)):=(h1.kwc hi).2.2;rw[<-HW1.out]at c2
 have HA:Hid (Calls Tryz.prog 305 #[.pointer (some ⟨Z.z.la i,0,none⟩)] w1 fun e w'=>e=.returned (.int .i64 0)/\w'.cell? ⟨Z.z.kw i,2,none⟩=some (.pointer (some ⟨Z.z.la i,0,none⟩))/\Hid (Calls Tryz.prog 46 #[.pointer (some ⟨Z.z.la i,0,none⟩)] w' fun e w''=>e=.returned (.int .i64 g.n)/\Dn w0 c T w Z s w'' {Z with S:=upd Z.S i (Z.S i)} {s with ln:=upd s.ln i (some (ackH g))})):=by
  have hla:=h1.la hi;rw[hn]at hla
  refine Calls.mono (zrf hla) ?_;rintro e w'⟨rfl,k1,k2⟩;obtain⟨gn,gl,go⟩:=g;obtain⟨o,rfl⟩:∃o,go=o+1:=⟨go-1,by simp only at ho;omega⟩;have k1':LnM w' (Z.z.la i) ((i+1:Nat):Int) c.l c.s c.w c.q (some (ackH ⟨gn,gl,o+1⟩)) (Z.S i):=k1;have hD:=h1.setLa hi k2 (fun b hb _=>by simpa using hb) k1' (fun b hb=>Or.inl hb) (Nat.le_refl _);have hD2:=(h.dn hF1).trans hD;refine⟨rfl,(hD2.kwc hi).2,?_⟩;refine (zcf k1').mono ?_;rintro e w''⟨rfl,k3⟩;exact⟨rfl,hD2.trans (hD2.m.dn k3)⟩
 clear h hF1 h1 hn ho;go_enter Tryz.func268,Tryz.ntmps268;go_wp2_with fail
 rw[HW1.out];clear HW1;refine Calls.mono HA.out ?_;rintro e w2⟨rfl,d2,HH⟩;clear HA c2;go_wp2_with fail
 refine Calls.mono HH.out ?_;rintro e w3⟨rfl,hD⟩;have HD:Hid (Dn w0 c T w Z s w3 _ _):=hD;clear hD;go_wp2;go_ret;exact⟨rfl,HD.out⟩
end
section
variable{w0 w w':World}{c:Cf}{T:List Tx}{Z:Lay}{s:Ms}
theorem Dn.finS{w1 w9:World}{S:List Nat}{Z':Lay}{s':Ms}(k:Dn w0 c T w1 Z s w9 Z' s')(h:MaM w0 w c T Z s)(h1:Fr [] w w1)(hS:∀b∈S,w.heap.size<=b/\MaM.off w0 w9 c T Z' s' b)(hf:Fr S w9 w'):Dn w0 c T w Z s w' Z' s':=by
 have hS':∀b∈S,w0.heap.size<=b/\MaM.off w0 w9 c T Z' s' b:=fun b hb=>⟨Nat.le_trans h.fr.size (hS b hb).1,(hS b hb).2⟩;have back:∀i b,(mP w0 c T Z s i).O w1 b->(mP w0 c T Z s i).O w b:=fun i b hb=>((h.m.ok i).keep [] w w1 (h.m.m i) h.m.fr h1 (by simp)).2 b hb;have hx:=k.x.from h1 fun i b hb=>Or.inl (back i b hb);refine⟨k.m.other hf hS',⟨?_,fun i b hb=> ?_⟩,k.z,k.y⟩
 .obtain⟨S2,sf,sS⟩:=hx.fr;refine⟨S2,sf.trans hf (fun x hx _=>hx) (fun x hx hl=> ?_),sS⟩;have:=(hS x hx).1;omega
 have hk:=((k.m.m.ok i).keep S w9 w' (k.m.m.m i) k.m.m.fr hf fun b hb hl=>⟨(hS' b hb).1,(hS' b hb).2 i⟩).2 b hb;exact hx.sub i b hk
theorem zzy(c:Cf)(Z:St){i:Nat}(hi:i<c.l.toNat):zbh c Z (i+1)=.iface 267 (.pointer (some ⟨Z.kw i,0,none⟩)):=by
 unfold zbh;rw[if_neg (by omega),if_pos (by omega)];rfl
theorem zdt{w:World}{b j:Nat}{cs:Array Value}{t:TypeId}(x:Value)(h:w.heap[b]? = some (.cells cs t (0,0))):(w.setCell ⟨b,j,none⟩ x).heap[b]? = some (.cells (cs.setIfInBounds j x) t (0,0)):=by
 obtain⟨hlt,hk⟩:=Array.getElem?_eq_some_iff.1 h;show (w.heap.modify b _)[b]? = _;rw[Array.getElem?_modify,if_pos rfl,h];rfl
def Ebx(w:World)(b:Nat)(n sh:Int):Prop:=w.heap[b]? = some (.cells #[.int .i64 0,.int .u8 0,.int .i64 n,.int .i64 sh,.int .i64 0,.int .i64 0] 40 (0,0))
theorem zzz(h:MaM w0 w c T Z s)(hnr:Z.nr=s.d){j:Nat}(hj:j<c.s.toNat){e:Qe}{r:List Qe}(hq:s.qs j=e::r){i:Nat}{g:Hl}(hi:i<c.l.toNat)(hef:e.f=((i+1:Nat):Int))(hn:s.ln i=some g)(ho:0<g.out)(hen:1<=e.n/\e.n<=65536)(hy:okW e.x)(hno:∀v∈s.M j e.x.key,v.num≠e.n)(hk:s.k<16000000) :
  Calls Tryz.prog 302 #[.pointer (some ⟨Z.z.kk j,0,none⟩),.int .u8 7] w fun e' w'=>∃M',O.PutM (s.M j) e.x.key ⟨e.n,e.x.val,e.x.drop⟩ M' true/\StP w0 c T w Z s g.n (j:Int) 0 (zaw s j e r g M') e' w':=by
 obtain⟨w1,HW1⟩:∃w1,Hid (w.alloc (.cells #[.int .i64 0,.int .u8 0,.int .i64 0,.int .i64 0,.int .i64 0,.int .i64 0] 40)=w1):=⟨_,rfl⟩;obtain⟨A,HA⟩:∃A,Hid (w.heap.size=A):=⟨_,rfl⟩;have hF1:Fr [] w w1:=by rw[<-HW1.out];exact Fr.alloc _ _ _
 have hBx:Bx w0 c T w1 Z s A:=by rw[<-HW1.out,<-HA.out];exact Bx.new h
 have h1:=h.quiet hF1;obtain⟨w2,HW2⟩:∃w2,Hid (w1.alloc (.cells #[.int .i64 0,.int .u8 0,.int .i64 0,.int .i64 0,.int .i64 0,.int .i64 0] 40)=w2):=⟨_,rfl⟩;obtain⟨E,HE⟩:∃E,Hid (w1.heap.size=E):=⟨_,rfl⟩;have hF2:Fr [] w1 w2:=by rw[<-HW2.out];exact Fr.alloc _ _ _
 have hBe:Bx w0 c T w2 Z s E:=by rw[<-HW2.out,<-HE.out];exact Bx.new h1
 have h2:=h1.quiet hF2;have hBa:Bx w0 c T w2 Z s A:=hBx.then (h1.dn hF2);have hAE:A<E:=by rw[<-HE.out];exact lt_of_block hBx.box
 have hwA:w.heap.size<=A:=by rw[HA.out];exact Nat.le_refl _
 obtain⟨k0,k1,k2,k3⟩:=h1.kkc hj;obtain⟨G,hG⟩:∃G,g.n=G:=⟨_,rfl⟩;obtain⟨EF,hEF⟩:∃EF,e.f=EF:=⟨_,rfl⟩;have HC1:Hid (∀w3,Fr [E] w2 w3->Ebx w3 E 0 j->w3.cell? ⟨Z.z.kk j,3,none⟩=some (.pointer (some ⟨Z.z.ob j,0,none⟩))/\Calls Tryz.prog 304 #[.pointer (some ⟨Z.z.ob j,0,none⟩)] w3 fun e' w4=>e'=.returned (.tuple #[.agg #[.int .i64 EF,.bool true,.slice none 0 0,.slice none 0 0,.int .i64 0],.int .i64 0])/\Hid (∃M',O.PutM (s.M j) e.x.key ⟨e.n,e.x.val,e.x.drop⟩ M' true/\∀W,Fr [] w4 W->W.cell? ⟨Z.z.kk j,0,none⟩=some (.pointer (some ⟨Z.z.mb,0,none⟩))/\Calls Tryz.prog 42 #[.pointer (some ⟨Z.z.mb,0,none⟩),.int .i64 EF] W (fun e5 w'=>e5=.returned (.tuple #[.iface 267 (.pointer (some ⟨Z.z.kw i,0,none⟩)),.bool true])/\Fr [] W w')/\Calls Tryz.prog 268 #[.pointer (some ⟨Z.z.kw i,0,none⟩),.agg #[.int .i64 EF,.bool true,.slice none 0 0,.slice none 0 0,.int .i64 0]] W (fun e5 w7=>e5=.returned (.int .i64 G)/\Ebx w7 E 0 j/\∀w8,Fr [E] w7 w8->Ebx w8 A 0 0/\∀w9,Fr [A] w8 w9->∃Z',Dn w0 c T w Z s w9 Z' (zaw s j e r g M')/\Z'.nr=(zaw s j e r g M').d))):=fun w3 hf3 hb3=>by
  have hSE:∀b∈[E],w0.heap.size<=b/\MaM.off w0 w2 c T Z s b:=fun b hb=>by rw[List.mem_singleton.1 hb];exact⟨by have:=h.fr.size;omega,hBe.off⟩
  have h3:=h2.other hf3 hSE;have hoE:=h2.otherO hf3 hSE hBe.off;have hoA:=h2.otherO hf3 hSE hBa.off;have hbA:Ebx w3 A 0 0:=hf3.keep hBa.box (by simp;omega);have hF3:Fr [] w w3:=((hF1.then hF2).on hf3 (fun x hx=>by simp at hx;omega));refine⟨(h3.kkc hj).2.2.2,(zrj h3 hj hq hen hy hno hk).mono ?_⟩;rintro e' w4⟨rfl,M',Z4,hP,hD,hnr4⟩;refine⟨by rw[<-hEF],M',hP,fun W hf=> ?_⟩;have hD5:=hD.trans (hD.m.dn hf);have hm:=hD5.m;refine⟨by have:=(hm.kkc hj).1;rw[hD5.z]at this;exact this,?_,?_⟩
  .have hF:=znq hm (q:=i+1) (by omega);rw[zzy c Z4.z hi,hD5.z,<-hef,hEF]at hF
   exact hF
  have hH:=zue hm hi (g:=g) hn ho e.f;rw[hG,hEF,hD5.z]at hH
  refine hH.mono ?_;rintro e' w7⟨rfl,hD7⟩;have hD8:=hD5.trans hD7;have ob7:=hD8.keep hb3 hoE;refine⟨rfl,ob7,fun w8 hf8=> ?_⟩;have oA7:=hD8.off (lt_of_block hbA) hoA;have oE7:=hD8.off (lt_of_block hb3) hoE;have hD9:=hD8.finS h hF3 (S:=[E]) (fun b hb=>by rw[List.mem_singleton.1 hb];exact⟨by omega,oE7⟩) hf8;have bA8:Ebx w8 A 0 0:=hf8.keep (hD8.keep hbA hoA) (by simp;omega);have oA8:=hD8.m.otherO hf8 (fun b hb=>by rw[List.mem_singleton.1 hb];exact⟨by have:=h.fr.size;omega,oE7⟩) oA7;refine⟨bA8,fun w9 hf9=> ?_⟩;have hD10:=hD9.finS h (Fr.refl _ _) (S:=[A]) (fun b hb=>by rw[List.mem_singleton.1 hb];exact⟨hwA,oA8⟩) hf9;have es:zaw s j e r g M'={s with qs:=upd s.qs j r,ln:=upd s.ln i (some (ackH g)),M:=upd s.M j M',k:=s.k+1}:=by unfold zaw;rw[hef];rfl
  rw[es];exact⟨_,hD10,hnr4.trans hnr⟩
 rw[hG];clear h hnr hj hq hef hn ho hen hy hno hk hF1 hBx h1 hF2 hBe h2 hBa hG hEF hwA;have HAE:Hid (A<E):=hAE;clear hAE;go_enter Tryz.func302,Tryz.ntmps302;go_upto_region 1 with fail
 rw[HW1.out,HA.out];clear HW1 HA;go_wp2_with (first
  |(refine zag rfl _ _ rfl w1.heap.size 0 0 0 (j:Int) 0 0 rfl rfl 0 0 0 0 0 0 (heap_alloc_new w1 _) ?_;rw[HW2.out,HE.out];clear HW2 HE;intro w3 hb3 hf3;obtain⟨d3,hC⟩:=HC1.out w3 hf3 hb3.out;have HC:Hid (Calls ..):=hC;clear hC HC1 hf3 hb3)
  |fail)
 refine Calls.mono HC.out ?_;rintro e' w4⟨rfl,HP⟩;obtain⟨M',hP,hN⟩:=HP.out;have HPM:Hid (O.PutM _ _ _ _ _):=hP;have HN:Hid (∀W,_->_):=hN;clear HC HP hP hN d3;obtain⟨w5,HW5⟩:∃w5,Hid (w4.alloc (.cells #[.int .i64 EF,.bool true,.slice none 0 0,.slice none 0 0,.int .i64 0] 394)=w5):=⟨_,rfl⟩;obtain⟨TB,HTB⟩:∃TB,Hid (w4.heap.size=TB):=⟨_,rfl⟩;have hF5:Fr [] w4 w5:=by rw[<-HW5.out];exact Fr.alloc _ _ _
 have hb5:w5.heap[TB]? = some (.cells #[.int .i64 EF,.bool true,.slice none 0 0,.slice none 0 0,.int .i64 0] 394 (0,0)):=by rw[<-HW5.out,<-HTB.out];exact heap_alloc_new _ _
 have q0:∀y:Wq w5,y.W.cell? ⟨Z.z.kk j,0,none⟩=some (.pointer (some ⟨Z.z.mb,0,none⟩)):=fun y=>(HN.out y.W (hF5.then y.h)).1;have qb:∀y:Wq w5,y.W.cell? ⟨TB,0,none⟩=some (.int .i64 EF):=fun y=>by rw[crw (y.h.keep hb5 (by simp))];rfl
 have HFd:∀y:Wq w5,Calls Tryz.prog 42 #[.pointer (some ⟨Z.z.mb,0,none⟩),.int .i64 EF] y.W fun e5 w'=>e5=.returned (.tuple #[.iface 267 (.pointer (some ⟨Z.z.kw i,0,none⟩)),.bool true])/\Fr [] y.W w':=fun y=>(HN.out y.W (hF5.then y.h)).2.1;have HB5:Hid (w5.heap[TB]? = _):=hb5;have HF5:Hid (Fr [] w4 w5):=hF5;clear hb5 hF5;go_upto_region 3 with fail
 rw[HW5.out,HTB.out];clear HW5 HTB;refine zbz (w1:=w5) (by kernel_rfl) (by kernel_rfl) (Fr.refl _ _) ?_
 repeat (go_big_quiet_step (first
  |(go_at_call 42;with_reducible refine (HFd _).mono ?_;exact fun e w3 hh=>⟨hh.1,⟨_,Fr.then (Wq.h _) hh.2⟩,rfl⟩)
  |simp[go_sem,q0,qb]))
 refine wpQuiet_nil ?_;rintro _⟨z,rfl⟩;have hbz:=z.h.keep HB5.out (by simp);have HH:Hid (Calls ..):=(HN.out z.W (HF5.out.then z.h)).2.2;have t0:z.W.cell? ⟨TB,0,none⟩=some (.int .i64 EF):=qb z;have t1:z.W.cell? ⟨TB,1,none⟩=some (.bool true):=by rw[crw hbz];rfl
 have t2:z.W.cell? ⟨TB,2,none⟩=some (.slice none 0 0):=by rw[crw hbz];rfl
 have t3:z.W.cell? ⟨TB,3,none⟩=some (.slice none 0 0):=by rw[crw hbz];rfl
 have t4:z.W.cell? ⟨TB,4,none⟩=some (.int .i64 0):=by rw[crw hbz];rfl
 have MM:=zzv (Z.z.kw i) z.W;obtain⟨wz,HWZ⟩:∃wz,wz=z.W:=⟨_,rfl⟩;rw[<-HWZ]at t0 t1 t2 t3 t4 MM HH ⊢
 clear HN HF5 HB5 q0 qb HFd hbz HWZ z;go_wp2_with (simp[go_sem,MM])
 refine Calls.mono HH.out ?_;rintro e' w7⟨rfl,hb7,hfin⟩;have HFin:Hid (∀w8,_->_):=hfin;have u2:w7.cell? ⟨E,2,none⟩=some (.int .i64 0):=by rw[crw hb7];rfl
 have z2:w7.frozen? ⟨E,2,none⟩=false:=by simp[World.frozen?,show w7.heap[E]? = _ from hb7]
 have HB7:Hid (Ebx w7 E 0 j):=hb7;clear hb7 hfin HH MM t0 t1 t2 t3 t4;obtain⟨w8,HW8⟩:∃w8,Hid (w7.setCell ⟨E,2,none⟩ (.int .i64 G)=w8):=⟨_,rfl⟩;have hF8:Fr [E] w7 w8:=by rw[<-HW8.out];exact Fr.set _ _ _ (by simp)
 have hb8:Ebx w8 E G j:=by rw[<-HW8.out];exact zdt (.int .i64 G) HB7.out
 obtain⟨hA8,hfin⟩:=HFin.out w8 hF8;have HFin9:Hid (∀w9,_->_):=hfin;have e0:w8.cell? ⟨E,0,none⟩=some (.int .i64 0):=by rw[crw hb8];rfl
 have e1:w8.cell? ⟨E,1,none⟩=some (.int .u8 0):=by rw[crw hb8];rfl
 have e2:w8.cell? ⟨E,2,none⟩=some (.int .i64 G):=by rw[crw hb8];rfl
 have e3:w8.cell? ⟨E,3,none⟩=some (.int .i64 j):=by rw[crw hb8];rfl
 have e4:w8.cell? ⟨E,4,none⟩=some (.int .i64 0):=by rw[crw hb8];rfl
 have e5:w8.cell? ⟨E,5,none⟩=some (.int .i64 0):=by rw[crw hb8];rfl
 clear hF8 hb8 hfin HB7 HFin;go_upto_region 6 with fail
 rw[HW8.out];clear HW8 u2 z2;go_wp2_with (first
  |(refine zag rfl _ _ rfl A 0 0 G (j:Int) 0 0 rfl rfl 0 0 0 0 0 0 hA8 ?_;intro w9 hw9 hf9;have HF9:Hid _:=HFin9.out _ hf9;clear hf9)
  |fail)
 refine bodyPost_ret (zax rfl _ _ _ A _ rfl (zbr hw9.out)) rfl ?_;exact⟨M',HPM.out,rfl,HF9.out⟩
end
section
variable{w0 w w':World}{c:Cf}{T:List Tx}{Z:Lay}{s:Ms}
def kbU(kb:Int->Nat)(n:Int)(B:Nat):Int->Nat:=fun m=>if m=n then B else kb m
theorem zfd(kb:Int->Nat)(n:Int)(B:Nat):kbU kb n B n=B:=if_pos rfl
theorem zfs(kb:Int->Nat){n m:Int}(B:Nat)(h:m≠n):kbU kb n B m=kb m:=if_neg h
theorem zuf(T:List Tx)(kb:Int->Nat)(wt:Int->Prop){n:Int}(B:Nat)(h:¬wt n):wtF T (kbU kb n B) wt=wtF T kb wt:=by
 funext m
 unfold wtF;by_cases hm:wt m
 .rw[if_pos hm,if_pos hm,zfs kb B (fun e=>h (by rw[<-e];exact hm))]
 rw[if_neg hm,if_neg hm]
theorem zug(T:List Tx)(kb:Int->Nat){l:List Int}{n:Int}(B:Nat)(h:n∉l):l.map (txR T (kbU kb n B))=l.map (txR T kb):=
 List.map_congr_left fun m hm=>by unfold txR;rw[zfs kb B (fun e=>h (by rw[<-e];exact hm))]
theorem MaM.heldB(h:MaM w0 w c T Z s)(hv:s.hv=true)(hrd:s.rd=s.d+1):∃B,Z.hw=.slice (some ⟨B,0,none⟩) (wsAt T s.rd).length (wsAt T s.rd).length:=by
 have hfe:=h.fe;have hm:=hfe.m;have hmay:=h.may;obtain⟨h1,B,ehw,hrow,hB0⟩:=hm.held (show (⟨s.rd,s.fd,c.w.toNat,s.hv,false⟩:F.Fe).hv=true from hv);have ews:wsAt T (s.rd:Int)=(Z.y.ts.getD (s.rd-1) Tm.zero).ws:=by
  unfold wsAt;rw[<-h.log,show ((s.rd:Int)-1).toNat=s.rd-1 by omega,zgu];rfl
 have eL:(Z.y.ts.getD (s.rd-1) Tm.zero).L=(wsAt T (s.rd:Int)).length:=by
  rw[ews];have hlt:s.rd-1<Z.y.ts.length:=by have a1:s.rd<=s.fd:=hm.rf;have a2:s.fd<=Z.y.ts.length:=hm.fl;omega
  have hmem:Z.y.ts.getD (s.rd-1) Tm.zero∈Z.y.ts:=by
   have:Z.y.ts.getD (s.rd-1) Tm.zero=Z.y.ts[s.rd-1]:=by simp[List.getD,hlt]
   rw[this];exact List.getElem_mem hlt
  obtain⟨k,e1,e2,e3,e4,e5,e6⟩:=hm.src.each _ hmem;exact e3
 exact⟨B,by rw[ehw,eL]⟩
theorem MaM.disF(h:MaM w0 w c T Z s)(hnr:Z.nr=s.d)(hv:s.hv=true)(hrd:s.rd=s.d+1)(hw:¬s.wt (s.rd:Int))(hl:(s.rd:Int)∉s.line)(hnear:(s.rd:Int)<=s.ma+c.w) :
  Calls Tryz.prog 255 #[.pointer (some ⟨Z.z.fb,0,none⟩),.int .i64 s.ma] w fun e w'=>∃B,Z.hw=.slice (some ⟨B,0,none⟩) (wsAt T s.rd).length (wsAt T s.rd).length/\e=.returned (.tuple #[.agg #[.int .i64 (s.rd:Int),.slice (some ⟨B,0,none⟩) (wsAt T s.rd).length (wsAt T s.rd).length],.int .i64 0])/\w'.heap[B]? = some (.cells (wtsC (wsAt T s.rd)).toArray 51 (0,0))/\Dn w0 c T w Z s w' {Z with hw:=.slice none 0 0,kb:=kbU Z.kb s.rd B,nr:=Z.nr+1} {s with hv:=false}/\Fr [Z.z.fb] w w'/\∀b,w.heap.size<=b->MaM.off w0 w' c T {Z with hw:=.slice none 0 0,kb:=kbU Z.kb s.rd B,nr:=Z.nr+1} {s with hv:=false} b:=by
 have hfe:=h.fe;have hm:=hfe.m;have hmay:=h.may;obtain⟨h1,B,ehw,hrow,hB0⟩:=hm.held (show (⟨s.rd,s.fd,c.w.toNat,s.hv,false⟩:F.Fe).hv=true from hv);have ews:wsAt T (s.rd:Int)=(Z.y.ts.getD (s.rd-1) Tm.zero).ws:=by
  unfold wsAt;rw[<-h.log,show ((s.rd:Int)-1).toNat=s.rd-1 by omega,zgu];rfl
 have eL:(Z.y.ts.getD (s.rd-1) Tm.zero).L=(wsAt T (s.rd:Int)).length:=by
  rw[ews];have hlt:s.rd-1<Z.y.ts.length:=by have a1:s.rd<=s.fd:=hm.rf;have a2:s.fd<=Z.y.ts.length:=hm.fl;omega
  have hmem:Z.y.ts.getD (s.rd-1) Tm.zero∈Z.y.ts:=by
   have:Z.y.ts.getD (s.rd-1) Tm.zero=Z.y.ts[s.rd-1]:=by simp[List.getD,hlt]
   rw[this];exact List.getElem_mem hlt
  obtain⟨k,e1,e2,e3,e4,e5,e6⟩:=hm.src.each _ hmem;exact e3
 have hB:B<w.heap.size:=lt_of_block hrow;have dc:(⟨s.rd,s.fd,c.w.toNat,s.hv,false⟩:F.Fe).disC [] s.ma=0:=by
  have:=hmay.2.2.1;simp[F.Fe.disC,F.Fe.near,hv];omega
 refine (F.fDis_any hm s.ma).mono ?_;rintro e w'⟨rfl,k1,k2⟩;have dv:F.disV ⟨s.rd,s.fd,c.w.toNat,s.hv,false⟩ [] s.ma Z.hw=.agg #[.int .i64 (s.rd:Int),.slice (some ⟨B,0,none⟩) (wsAt T s.rd).length (wsAt T s.rd).length]:=by
  unfold F.disV;rw[if_pos dc,ehw];rw[eL]
 have ds:(⟨s.rd,s.fd,c.w.toNat,s.hv,false⟩:F.Fe).disS [] s.ma=⟨s.rd,s.fd,c.w.toNat,false,false⟩:=by
  unfold F.Fe.disS;rw[if_pos dc]
 have dh:F.disH ⟨s.rd,s.fd,c.w.toNat,s.hv,false⟩ [] s.ma Z.hw=.slice none 0 0:=by
  unfold F.disH;rw[if_pos dc]
 rw[ds,dh]at k1
 have hBf:B∉[Z.z.fb]:=by
  intro hx;rw[List.mem_singleton]at hx
  rw[hx]at hrow
  have:=hm.box;rw[hrow]at this
  simp only[Option.some.injEq,Obj.cells.injEq]at this;exact absurd this.2.1 (by decide)
 have hrow':=k2.keep hrow hBf;rw[<-ews]at hrow hrow'
 have ownB:(feP w0 c Z.z.fb Z.y Z.v Z.hw s.rd s.fd s.hv).O w B:=Or.inr (Or.inr (by rw[ehw];rfl));have hBB:Z.y.B0<=B:=hfe.hB B (by rw[ehw];rfl);have feO:∀b,zep w0 Z.y Z.v (.slice none 0 0) b->zep w0 Z.y Z.v Z.hw b/\b≠B:=fun b hb=>by
  rcases hb with e|e|e
  .exact⟨Or.inl e,by omega⟩
  .refine⟨Or.inr (Or.inl e),fun x=> ?_⟩;subst x;obtain⟨_,cur,k3⟩:=zgv hm.src.row e;rw[hrow]at k3
   simp only[Option.some.injEq,Obj.cells.injEq]at k3;exact absurd k3.2.1 (by decide)
  cases e
 have reO:∀b,(∃n:Int,1<=n/\n<=((Z.nr+1:Nat):Int)/\b=kbU Z.kb s.rd B n)->b=B\/(∃n:Int,1<=n/\n<=(Z.nr:Int)/\b=Z.kb n):=by
  rintro b⟨n,a1,a2,rfl⟩;by_cases e:n=(s.rd:Int)
  .rw[e,zfd];exact Or.inl rfl
  rw[zfs _ _ e];exact Or.inr ⟨n,a1,by omega,rfl⟩
 have fe0:∀b,zep w0 Z.y Z.v Z.hw b->(mP w0 c T Z s .fe).O w b:=fun b hb=>hb;have re0:∀b,(∃n:Int,1<=n/\n<=(Z.nr:Int)/\b=Z.kb n)->(mP w0 c T Z s .re).O w b:=fun b hb=>hb;have hst:=h.m.step (P':=mP w0 c T {Z with hw:=.slice none 0 0,kb:=kbU Z.kb s.rd B,nr:=Z.nr+1} {s with hv:=false}) (fun i=>i=.fe\/i=.re) k2 (fun b hb _=>⟨.fe,Or.inl rfl,?_⟩) (fun i hi=> ?_) (fun i hi=> ?_) (fun i hi=> ?_) (fun i hi b hb=> ?_) (fun i j b hi hj hbi hbj=> ?_)
 .have hoff:∀b,w.heap.size<=b->MaM.off w0 w' c T {Z with hw:=.slice none 0 0,kb:=kbU Z.kb s.rd B,nr:=Z.nr+1} {s with hv:=false} b:=fun b hb i hi=>by
   have hsub:∃j,(mP w0 c T Z s j).O w b:=by
    by_cases hA:i=.fe\/i=.re
    .rcases hA with rfl|rfl
     .exact⟨.fe,(feO b hi).1⟩
     rcases reO b hi with e|e
     .exact⟨.fe,by rw[e];exact ownB⟩
     exact⟨.re,e⟩
    have hP:mP w0 c T {Z with hw:=.slice none 0 0,kb:=kbU Z.kb s.rd B,nr:=Z.nr+1} {s with hv:=false} i=mP w0 c T Z s i:=by
     cases i with
     |fe=>exact absurd (Or.inl rfl) hA
     |re=>exact absurd (Or.inr rfl) hA
     |wa=>simp only[mP,waP];rw[zuf T Z.kb s.wt B hw]
     |li=>simp only[mP,liP];rw[zug T Z.kb B hl]
     |_=>rfl
    rw[hP]at hi
    refine⟨i,((h.m.ok i).keep [Z.z.fb] w w' (h.m.m i) h.m.fr k2 (fun x hx hxl=> ?_)).2 b hi⟩;rw[List.mem_singleton.1 hx];refine⟨hm.fn,fun hO=>hA (Or.inl ?_)⟩;exact h.m.ap i .fe _ hO (fe0 _ (Or.inl ⟨hm.fn,hfe.f0⟩))
   obtain⟨j,hj⟩:=hsub;have:=((h.m.ok j).lt w b (h.m.m j) hj).2;omega
  exact⟨B,by rw[ehw,eL],by rw[dv,dc];rfl,hrow',⟨⟨hst.1,h.log,Nat.le_succ_of_le h.rows,h.few⟩,hst.2,rfl,rfl⟩,k2,hoff⟩
 .rw[List.mem_singleton.1 hb];exact fe0 _ (Or.inl ⟨hm.fn,hfe.f0⟩)
 .cases i with
  |fe=>exact absurd (Or.inl rfl) hi
  |re=>exact absurd (Or.inr rfl) hi
  |wa=>simp only[mP,waP];rw[zuf T Z.kb s.wt B hw]
  |li=>simp only[mP,liP];rw[zug T Z.kb B hl]
  |_=>rfl
 .exact zadm _ _ _ _ _ i
 .rcases hi with rfl|rfl
  .exact⟨k1,hfe.f0,hfe.g0,hfe.l0,hfe.m0,hfe.t0,Nat.le_trans hfe.b0 k2.size,fun k hk=>(by cases hk),fun k hk=>(by cases hk)⟩
  intro n a1 a2;by_cases e:n=(s.rd:Int)
  .subst e;show w'.heap[kbU Z.kb s.rd B s.rd]? = _/\w0.heap.size<=kbU Z.kb s.rd B s.rd;rw[zfd];exact⟨hrow',hB0⟩
  show w'.heap[kbU Z.kb s.rd B n]? = _/\w0.heap.size<=kbU Z.kb s.rd B n;rw[zfs _ _ e];have a3:n<=(Z.nr:Int):=by have:n<=((Z.nr+1:Nat):Int):=a2;omega
  obtain⟨b1,b2⟩:=h.re n a1 a3;refine⟨k2.keep b1 (fun hx=> ?_),b2⟩;rw[List.mem_singleton]at hx
  have hbox:=hm.box;rw[<-hx,b1]at hbox
  simp only[Option.some.injEq,Obj.cells.injEq]at hbox;exact absurd hbox.2.1 (by decide)
 .rcases hi with rfl|rfl
  .exact Or.inl ⟨.fe,Or.inl rfl,(feO b hb).1⟩
  rcases reO b hb with e|e
  .exact Or.inl ⟨.fe,Or.inl rfl,by rw[e];exact ownB⟩
  exact Or.inl ⟨.re,Or.inr rfl,e⟩
 have key:∀b,(mP w0 c T {Z with hw:=.slice none 0 0,kb:=kbU Z.kb s.rd B,nr:=Z.nr+1} {s with hv:=false} .fe).O w' b->(mP w0 c T {Z with hw:=.slice none 0 0,kb:=kbU Z.kb s.rd B,nr:=Z.nr+1} {s with hv:=false} .re).O w' b->False:=fun b x1 x2=>by
  obtain⟨x3,x4⟩:=feO b x1;rcases reO b x2 with e|e
  .exact x4 e
  have:=h.m.ap .fe .re b (fe0 b x3) (re0 b e);cases this
 rcases hi with rfl|rfl<;>rcases hj with rfl|rfl
 .rfl
 .exact (key b hbi hbj).elim
 .exact (key b hbj hbi).elim
 rfl
end
end
namespace Kf
open Go.ChangeShapes Go.WideShapes Go.ChangeAt Go.RowKit Go.Lib
def n0:Oper:={dst:=some 9,op:=Op.move (Operand.tmp 0),type:=261,pos:= "task.go:53",after:=#[],guard:=none}
def n1:Oper:={dst:=some 10,op:=Op.nilCheck (Operand.tmp 9),type:=0,pos:= "task.go:53",after:=#[{on:=0,ground:=Ground.data}],guard:=none}
def n2:Oper:={dst:=some 11,op:=Op.fieldAddr 266 (Operand.tmp 10) 0,type:=0,pos:= "task.go:53",after:=#[{on:=1,ground:=Ground.data}],guard:=none}
def n3:Oper:={dst:=some 12,op:=Op.fieldAddr 263 (Operand.tmp 11) 0,type:=0,pos:= "task.go:53",after:=#[{on:=2,ground:=Ground.data}],guard:=none}
def n4:Oper:={dst:=some 13,op:=Op.load 92 (Operand.tmp 12),type:=92,pos:= "task.go:53",after:=#[{on:=3,ground:=Ground.data}],guard:=none}
def n5:Oper:={dst:=some 14,op:=Op.nilCheck (Operand.tmp 13),type:=0,pos:= "task.go:53",after:=#[{on:=4,ground:=Ground.data}],guard:=none}
def n6:Oper:={dst:=some 15,op:=Op.fieldAddr 111 (Operand.tmp 14) 2,type:=0,pos:= "task.go:53",after:=#[{on:=5,ground:=Ground.data}],guard:=none}
def n7:Oper:={dst:=some 16,op:=Op.load 99 (Operand.tmp 15),type:=99,pos:= "task.go:53",after:=#[{on:=6,ground:=Ground.data}],guard:=none}
def n8:Oper:={dst:=some 17,op:=Op.move (Operand.tmp 0),type:=261,pos:= "task.go:53",after:=#[],guard:=none}
def n9:Oper:={dst:=some 18,op:=Op.nilCheck (Operand.tmp 17),type:=0,pos:= "task.go:53",after:=#[{on:=8,ground:=Ground.data}],guard:=none}
def n10:Oper:={dst:=some 19,op:=Op.fieldAddr 266 (Operand.tmp 18) 0,type:=0,pos:= "task.go:53",after:=#[{on:=9,ground:=Ground.data}],guard:=none}
def n11:Oper:={dst:=some 20,op:=Op.fieldAddr 263 (Operand.tmp 19) 0,type:=0,pos:= "task.go:53",after:=#[{on:=10,ground:=Ground.data}],guard:=none}
def n12:Oper:={dst:=some 21,op:=Op.load 92 (Operand.tmp 20),type:=92,pos:= "task.go:53",after:=#[{on:=11,ground:=Ground.data}],guard:=none}
def n13:Oper:={dst:=some 22,op:=Op.nilCheck (Operand.tmp 21),type:=0,pos:= "task.go:53",after:=#[{on:=12,ground:=Ground.data}],guard:=none}
def n14:Oper:={dst:=some 23,op:=Op.fieldAddr 111 (Operand.tmp 22) 9,type:=0,pos:= "task.go:53",after:=#[{on:=13,ground:=Ground.data}],guard:=none}
def n15:Oper:={dst:=some 24,op:=Op.load 106 (Operand.tmp 23),type:=106,pos:= "task.go:53",after:=#[{on:=14,ground:=Ground.data}],guard:=none}
def n16:Oper:={dst:=some 25,op:=Op.call {callee:=Callee.value (Operand.func 48),args:=#[Operand.tmp 24],argTypes:=#[106]},type:=3,pos:= "task.go:53",after:=#[{on:=15,ground:=Ground.data}],guard:=none}
def n17:Oper:={dst:=some 26,op:=Op.call {callee:=Callee.value (Operand.func 255),args:=#[Operand.tmp 16,Operand.tmp 25],argTypes:=#[99,3]},type:=209,pos:= "task.go:53",after:=#[{on:=7,ground:=Ground.data},{on:=16,ground:=Ground.data},{on:=16,ground:=Ground.chain}],guard:=none}
def n18:Oper:={dst:=some 8,op:=Op.move (Operand.tmp 26),type:=209,pos:= "task.go:53",after:=#[{on:=17,ground:=Ground.data}],guard:=none}
def n19:Oper:={dst:=some 27,op:=Op.extract (Operand.tmp 8) 0,type:=54,pos:= "task.go:53",after:=#[{on:=18,ground:=Ground.data}],guard:=none}
def n20:Oper:={dst:=some 28,op:=Op.extract (Operand.tmp 8) 1,type:=29,pos:= "task.go:53",after:=#[{on:=18,ground:=Ground.data},{on:=22,ground:=Ground.gcOnly Departure.lateStores}],guard:=none}
def n21:Oper:={dst:=some 4,op:=Op.alloc 54,type:=0,pos:= "task.go:53",after:=#[],guard:=none}
def n22:Oper:={dst:=none,op:=Op.store 54 (Operand.tmp 4) (Operand.tmp 27),type:=0,pos:= "task.go:53",after:=#[{on:=21,ground:=Ground.data},{on:=19,ground:=Ground.data},{on:=17,ground:=Ground.chain},{on:=0,ground:=Ground.phase},{on:=1,ground:=Ground.phase},{on:=2,ground:=Ground.phase},{on:=3,ground:=Ground.phase},{on:=4,ground:=Ground.phase},{on:=5,ground:=Ground.phase},{on:=6,ground:=Ground.phase},{on:=7,ground:=Ground.phase},{on:=8,ground:=Ground.phase},{on:=9,ground:=Ground.phase},{on:=10,ground:=Ground.phase},{on:=11,ground:=Ground.phase},{on:=12,ground:=Ground.phase},{on:=13,ground:=Ground.phase},{on:=14,ground:=Ground.phase},{on:=15,ground:=Ground.phase},{on:=16,ground:=Ground.phase},{on:=17,ground:=Ground.phase},{on:=18,ground:=Ground.phase},{on:=19,ground:=Ground.phase},{on:=20,ground:=Ground.textOnly Departure.lateStores},{on:=21,ground:=Ground.phase}],guard:=none}
def n23:Oper:={dst:=some 5,op:=Op.assign (Operand.tmp 28),type:=29,pos:= "task.go:53",after:=#[{on:=20,ground:=Ground.data},{on:=22,ground:=Ground.chain},{on:=0,ground:=Ground.phase},{on:=1,ground:=Ground.phase},{on:=2,ground:=Ground.phase},{on:=3,ground:=Ground.phase},{on:=4,ground:=Ground.phase},{on:=5,ground:=Ground.phase},{on:=6,ground:=Ground.phase},{on:=7,ground:=Ground.phase},{on:=8,ground:=Ground.phase},{on:=9,ground:=Ground.phase},{on:=10,ground:=Ground.phase},{on:=11,ground:=Ground.phase},{on:=12,ground:=Ground.phase},{on:=13,ground:=Ground.phase},{on:=14,ground:=Ground.phase},{on:=15,ground:=Ground.phase},{on:=16,ground:=Ground.phase},{on:=17,ground:=Ground.phase},{on:=18,ground:=Ground.phase},{on:=19,ground:=Ground.phase},{on:=20,ground:=Ground.phase},{on:=21,ground:=Ground.phase},{on:=22,ground:=Ground.phase}],guard:=none}
def ops:Array Oper:=#[n0,n1,n2,n3,n4,n5,n6,n7,n8,n9,n10,n11,n12,n13,n14,n15,n16,n17,n18,n19,n20,n21,n22,n23]
def dl:List (Option Nat):=[some 9,some 10,some 11,some 12,some 13,some 14,some 15,some 16,some 17,some 18,some 19,some 20,some 21,some 22,some 23,some 24,some 25,some 26,some 8,some 27,some 28,some 4,none,some 5]
theorem dst:∀i,zah ops i=(dl[i]?).bind id
 |0=>rfl
 |1=>rfl
 |2=>rfl
 |3=>rfl
 |4=>rfl
 |5=>rfl
 |6=>rfl
 |7=>rfl
 |8=>rfl
 |9=>rfl
 |10=>rfl
 |11=>rfl
 |12=>rfl
 |13=>rfl
 |14=>rfl
 |15=>rfl
 |16=>rfl
 |17=>rfl
 |18=>rfl
 |19=>rfl
 |20=>rfl
 |21=>rfl
 |22=>rfl
 |23=>rfl
 |n+24=>by simp[zah,ops,dl]
theorem o7:∀(i:Nat)(o:Oper),ops[i]? = some o->(i=0/\o=n0)\/(i=1/\o=n1)\/(i=2/\o=n2)\/(i=3/\o=n3)\/(i=4/\o=n4)\/(i=5/\o=n5)\/(i=6/\o=n6)\/(i=7/\o=n7)\/(i=8/\o=n8)\/(i=9/\o=n9)\/(i=10/\o=n10)\/(i=11/\o=n11)\/(i=12/\o=n12)\/(i=13/\o=n13)\/(i=14/\o=n14)\/(i=15/\o=n15)\/(i=16/\o=n16)\/(i=17/\o=n17)\/(i=18/\o=n18)\/(i=19/\o=n19)\/(i=20/\o=n20)\/(i=21/\o=n21)\/(i=22/\o=n22)\/(i=23/\o=n23)
 |0,o,h=>by have h2:some n0=some o:=h;cases h2;simp
 |1,o,h=>by have h2:some n1=some o:=h;cases h2;simp
 |2,o,h=>by have h2:some n2=some o:=h;cases h2;simp
 |3,o,h=>by have h2:some n3=some o:=h;cases h2;simp
 |4,o,h=>by have h2:some n4=some o:=h;cases h2;simp
 |5,o,h=>by have h2:some n5=some o:=h;cases h2;simp
 |6,o,h=>by have h2:some n6=some o:=h;cases h2;simp
 |7,o,h=>by have h2:some n7=some o:=h;cases h2;simp
 |8,o,h=>by have h2:some n8=some o:=h;cases h2;simp
 |9,o,h=>by have h2:some n9=some o:=h;cases h2;simp
 |10,o,h=>by have h2:some n10=some o:=h;cases h2;simp
 |11,o,h=>by have h2:some n11=some o:=h;cases h2;simp
 |12,o,h=>by have h2:some n12=some o:=h;cases h2;simp
 |13,o,h=>by have h2:some n13=some o:=h;cases h2;simp
 |14,o,h=>by have h2:some n14=some o:=h;cases h2;simp
 |15,o,h=>by have h2:some n15=some o:=h;cases h2;simp
 |16,o,h=>by have h2:some n16=some o:=h;cases h2;simp
 |17,o,h=>by have h2:some n17=some o:=h;cases h2;simp
 |18,o,h=>by have h2:some n18=some o:=h;cases h2;simp
 |19,o,h=>by have h2:some n19=some o:=h;cases h2;simp
 |20,o,h=>by have h2:some n20=some o:=h;cases h2;simp
 |21,o,h=>by have h2:some n21=some o:=h;cases h2;simp
 |22,o,h=>by have h2:some n22=some o:=h;cases h2;simp
 |23,o,h=>by have h2:some n23=some o:=h;cases h2;simp
 |n+24,o,h=>by simp[ops]at h
theorem hN:∀i j d,zah ops i=some d->zah ops j=some d->i=j:=by
 intro i j d h1 h2;rw[dst]at h1 h2
 have hi:i<24:=by
  cases h:dl[i]? with
  |none=>rw[h]at h1;cases h1
  |some x=>exact (List.getElem?_eq_some_iff.1 h).1
 have hj:j<24:=by
  cases h:dl[j]? with
  |none=>rw[h]at h2;cases h2
  |some x=>exact (List.getElem?_eq_some_iff.1 h).1
 have key:∀i,i<24->∀j,j<24->((dl[i]?).bind id).isSome=true->(dl[i]?).bind id=(dl[j]?).bind id->i=j:=by decide
 exact key i hi j hj (by rw[h1];rfl) (h1.trans h2.symm)
theorem hlex:∀(i:Nat)(o:Oper),ops[i]? = some o->∀e∈o.after,Region.binds .any e=true->e.on<i:=by
 intro i o h e he hb;have key:∀(k:Nat)(p:Oper),(p.after.all fun e=> !Region.binds .any e||decide (e.on<k))=true->∀e∈p.after,Region.binds .any e=true->e.on<k:=by
  intro k p hp e he hb;rw[Array.all_eq_true_iff_forall_mem]at hp
  have:=hp e he;simpa[hb]using this
 rcases o7 i o h with⟨rfl,rfl⟩|⟨rfl,rfl⟩|⟨rfl,rfl⟩|⟨rfl,rfl⟩|⟨rfl,rfl⟩|⟨rfl,rfl⟩|⟨rfl,rfl⟩|⟨rfl,rfl⟩|⟨rfl,rfl⟩|⟨rfl,rfl⟩|⟨rfl,rfl⟩|⟨rfl,rfl⟩|⟨rfl,rfl⟩|⟨rfl,rfl⟩|⟨rfl,rfl⟩|⟨rfl,rfl⟩|⟨rfl,rfl⟩|⟨rfl,rfl⟩|⟨rfl,rfl⟩|⟨rfl,rfl⟩|⟨rfl,rfl⟩|⟨rfl,rfl⟩|⟨rfl,rfl⟩|⟨rfl,rfl⟩
 .exact key 0 n0 (by simp[n0,Region.binds]) e he hb
 .exact key 1 n1 (by simp[n1,Region.binds]) e he hb
 .exact key 2 n2 (by simp[n2,Region.binds]) e he hb
 .exact key 3 n3 (by simp[n3,Region.binds]) e he hb
 .exact key 4 n4 (by simp[n4,Region.binds]) e he hb
 .exact key 5 n5 (by simp[n5,Region.binds]) e he hb
 .exact key 6 n6 (by simp[n6,Region.binds]) e he hb
 .exact key 7 n7 (by simp[n7,Region.binds]) e he hb
 .exact key 8 n8 (by simp[n8,Region.binds]) e he hb
 .exact key 9 n9 (by simp[n9,Region.binds]) e he hb
 .exact key 10 n10 (by simp[n10,Region.binds]) e he hb
 .exact key 11 n11 (by simp[n11,Region.binds]) e he hb
 .exact key 12 n12 (by simp[n12,Region.binds]) e he hb
 .exact key 13 n13 (by simp[n13,Region.binds]) e he hb
 .exact key 14 n14 (by simp[n14,Region.binds]) e he hb
 .exact key 15 n15 (by simp[n15,Region.binds]) e he hb
 .exact key 16 n16 (by simp[n16,Region.binds]) e he hb
 .exact key 17 n17 (by simp[n17,Region.binds]) e he hb
 .exact key 18 n18 (by simp[n18,Region.binds]) e he hb
 .exact key 19 n19 (by simp[n19,Region.binds]) e he hb
 .exact key 20 n20 (by simp[n20,Region.binds]) e he hb
 .exact key 21 n21 (by simp[n21,Region.binds]) e he hb
 .exact key 22 n22 (by simp[n22,Region.binds]) e he hb
 exact key 23 n23 (by simp[n23,Region.binds]) e he hb
theorem hg{a0:Act}(hz:a0.tmps.size=66):∀(i:Nat)(o:Oper),ops[i]? = some o->o.guard=none/\∀d,o.dst=some d->d<a0.tmps.size:=by
 intro i o h;rw[hz];rcases o7 i o h with⟨rfl,rfl⟩|⟨rfl,rfl⟩|⟨rfl,rfl⟩|⟨rfl,rfl⟩|⟨rfl,rfl⟩|⟨rfl,rfl⟩|⟨rfl,rfl⟩|⟨rfl,rfl⟩|⟨rfl,rfl⟩|⟨rfl,rfl⟩|⟨rfl,rfl⟩|⟨rfl,rfl⟩|⟨rfl,rfl⟩|⟨rfl,rfl⟩|⟨rfl,rfl⟩|⟨rfl,rfl⟩|⟨rfl,rfl⟩|⟨rfl,rfl⟩|⟨rfl,rfl⟩|⟨rfl,rfl⟩|⟨rfl,rfl⟩|⟨rfl,rfl⟩|⟨rfl,rfl⟩|⟨rfl,rfl⟩
 .exact⟨rfl,fun d hd=>by cases hd;decide⟩
 .exact⟨rfl,fun d hd=>by cases hd;decide⟩
 .exact⟨rfl,fun d hd=>by cases hd;decide⟩
 .exact⟨rfl,fun d hd=>by cases hd;decide⟩
 .exact⟨rfl,fun d hd=>by cases hd;decide⟩
 .exact⟨rfl,fun d hd=>by cases hd;decide⟩
 .exact⟨rfl,fun d hd=>by cases hd;decide⟩
 .exact⟨rfl,fun d hd=>by cases hd;decide⟩
 .exact⟨rfl,fun d hd=>by cases hd;decide⟩
 .exact⟨rfl,fun d hd=>by cases hd;decide⟩
 .exact⟨rfl,fun d hd=>by cases hd;decide⟩
 .exact⟨rfl,fun d hd=>by cases hd;decide⟩
 .exact⟨rfl,fun d hd=>by cases hd;decide⟩
 .exact⟨rfl,fun d hd=>by cases hd;decide⟩
 .exact⟨rfl,fun d hd=>by cases hd;decide⟩
 .exact⟨rfl,fun d hd=>by cases hd;decide⟩
 .exact⟨rfl,fun d hd=>by cases hd;decide⟩
 .exact⟨rfl,fun d hd=>by cases hd;decide⟩
 .exact⟨rfl,fun d hd=>by cases hd;decide⟩
 .exact⟨rfl,fun d hd=>by cases hd;decide⟩
 .exact⟨rfl,fun d hd=>by cases hd;decide⟩
 .exact⟨rfl,fun d hd=>by cases hd;decide⟩
 .exact⟨rfl,fun d hd=>by cases hd⟩
 exact⟨rfl,fun d hd=>by cases hd;decide⟩
theorem clD(L:Nat->Bool)(hcl:∀j k,L j=true->dep ops j k=true->L k=true)(h:L 17=true):∀i,i<17->L i=true:=by
 have h16:L 16=true:=hcl 17 16 h (by simp[dep,ops,n17,Region.binds]);have h15:L 15=true:=hcl 16 15 h16 (by simp[dep,ops,n16,Region.binds]);have h14:L 14=true:=hcl 15 14 h15 (by simp[dep,ops,n15,Region.binds]);have h13:L 13=true:=hcl 14 13 h14 (by simp[dep,ops,n14,Region.binds]);have h12:L 12=true:=hcl 13 12 h13 (by simp[dep,ops,n13,Region.binds]);have h11:L 11=true:=hcl 12 11 h12 (by simp[dep,ops,n12,Region.binds]);have h10:L 10=true:=hcl 11 10 h11 (by simp[dep,ops,n11,Region.binds]);have h9:L 9=true:=hcl 10 9 h10 (by simp[dep,ops,n10,Region.binds]);have h8:L 8=true:=hcl 9 8 h9 (by simp[dep,ops,n9,Region.binds]);have h7:L 7=true:=hcl 17 7 h (by simp[dep,ops,n17,Region.binds]);have h6:L 6=true:=hcl 7 6 h7 (by simp[dep,ops,n7,Region.binds]);have h5:L 5=true:=hcl 6 5 h6 (by simp[dep,ops,n6,Region.binds]);have h4:L 4=true:=hcl 5 4 h5 (by simp[dep,ops,n5,Region.binds]);have h3:L 3=true:=hcl 4 3 h4 (by simp[dep,ops,n4,Region.binds]);have h2:L 2=true:=hcl 3 2 h3 (by simp[dep,ops,n3,Region.binds]);have h1:L 1=true:=hcl 2 1 h2 (by simp[dep,ops,n2,Region.binds]);have h0:L 0=true:=hcl 1 0 h1 (by simp[dep,ops,n1,Region.binds]);intro i hi
 match i,hi with
 |0,_=>exact h0
 |1,_=>exact h1
 |2,_=>exact h2
 |3,_=>exact h3
 |4,_=>exact h4
 |5,_=>exact h5
 |6,_=>exact h6
 |7,_=>exact h7
 |8,_=>exact h8
 |9,_=>exact h9
 |10,_=>exact h10
 |11,_=>exact h11
 |12,_=>exact h12
 |13,_=>exact h13
 |14,_=>exact h14
 |15,_=>exact h15
 |16,_=>exact h16
 |i+17,hi=>omega
def val(kd mb fb gb B K:Nat)(ma n:Int)(x:Nat):Nat->Value
 |0=> .pointer (some ⟨kd,0,none⟩)
 |1=> .pointer (some ⟨kd,0,none⟩)
 |2=> .pointer (some ⟨kd,0,none⟩)
 |3=> .pointer (some ⟨kd,0,none⟩)
 |4=> .pointer (some ⟨mb,0,none⟩)
 |5=> .pointer (some ⟨mb,0,none⟩)
 |6=> .pointer (some ⟨mb,5,none⟩)
 |7=> .pointer (some ⟨fb,0,none⟩)
 |8=> .pointer (some ⟨kd,0,none⟩)
 |9=> .pointer (some ⟨kd,0,none⟩)
 |10=> .pointer (some ⟨kd,0,none⟩)
 |11=> .pointer (some ⟨kd,0,none⟩)
 |12=> .pointer (some ⟨mb,0,none⟩)
 |13=> .pointer (some ⟨mb,0,none⟩)
 |14=> .pointer (some ⟨mb,12,none⟩)
 |15=> .pointer (some ⟨gb,0,none⟩)
 |16=> .int .i64 ma
 |17=> .tuple #[.agg #[.int .i64 n,.slice (some ⟨B,0,none⟩) K K],.int .i64 0]
 |18=> .tuple #[.agg #[.int .i64 n,.slice (some ⟨B,0,none⟩) K K],.int .i64 0]
 |19=> .agg #[.int .i64 n,.slice (some ⟨B,0,none⟩) K K]
 |20=> .int .i64 0
 |21=> .pointer (some ⟨x,0,none⟩)
 |22=>undef
 |23=> .int .i64 0
 |_=>undef
def pairs(kd mb fb gb B K:Nat)(ma n:Int)(x:Nat):List (Nat×Value):=
 [(9,.pointer (some ⟨kd,0,none⟩)),(10,.pointer (some ⟨kd,0,none⟩)),(11,.pointer (some ⟨kd,0,none⟩)),(12,.pointer (some ⟨kd,0,none⟩)),(13,.pointer (some ⟨mb,0,none⟩)),(14,.pointer (some ⟨mb,0,none⟩)),(15,.pointer (some ⟨mb,5,none⟩)),(16,.pointer (some ⟨fb,0,none⟩)),(17,.pointer (some ⟨kd,0,none⟩)),(18,.pointer (some ⟨kd,0,none⟩)),(19,.pointer (some ⟨kd,0,none⟩)),(20,.pointer (some ⟨kd,0,none⟩)),(21,.pointer (some ⟨mb,0,none⟩)),(22,.pointer (some ⟨mb,0,none⟩)),(23,.pointer (some ⟨mb,12,none⟩)),(24,.pointer (some ⟨gb,0,none⟩)),(25,.int .i64 ma),(26,.tuple #[.agg #[.int .i64 n,.slice (some ⟨B,0,none⟩) K K],.int .i64 0]),(8,.tuple #[.agg #[.int .i64 n,.slice (some ⟨B,0,none⟩) K K],.int .i64 0]),(27,.agg #[.int .i64 n,.slice (some ⟨B,0,none⟩) K K]),(28,.int .i64 0),(4,.pointer (some ⟨x,0,none⟩)),(5,.int .i64 0)]
theorem hD(kd mb fb gb B K:Nat)(ma n:Int)(x:Nat):((pairs kd mb fb gb B K ma n x).map (·.1)).Nodup/\(∀p∈pairs kd mb fb gb B K ma n x,∃i,zah ops i=some p.1/\p.2=val kd mb fb gb B K ma n x i)/\∀i d,zah ops i=some d->(d,val kd mb fb gb B K ma n x i)∈pairs kd mb fb gb B K ma n x:=by
 refine⟨?_,fun p hp=> ?_,fun i d hd=> ?_⟩
 .show ([9,10,11,12,13,14,15,16,17,18,19,20,21,22,23,24,25,26,8,27,28,4,5]:List Nat).Nodup;decide
 .simp only[pairs,List.mem_cons,List.not_mem_nil,or_false]at hp;rcases hp with rfl|rfl|rfl|rfl|rfl|rfl|rfl|rfl|rfl|rfl|rfl|rfl|rfl|rfl|rfl|rfl|rfl|rfl|rfl|rfl|rfl|rfl|rfl
  .exact⟨0,rfl,rfl⟩
  .exact⟨1,rfl,rfl⟩
  .exact⟨2,rfl,rfl⟩
  .exact⟨3,rfl,rfl⟩
  .exact⟨4,rfl,rfl⟩
  .exact⟨5,rfl,rfl⟩
  .exact⟨6,rfl,rfl⟩
  .exact⟨7,rfl,rfl⟩
  .exact⟨8,rfl,rfl⟩
  .exact⟨9,rfl,rfl⟩
  .exact⟨10,rfl,rfl⟩
  .exact⟨11,rfl,rfl⟩
  .exact⟨12,rfl,rfl⟩
  .exact⟨13,rfl,rfl⟩
  .exact⟨14,rfl,rfl⟩
  .exact⟨15,rfl,rfl⟩
  .exact⟨16,rfl,rfl⟩
  .exact⟨17,rfl,rfl⟩
  .exact⟨18,rfl,rfl⟩
  .exact⟨19,rfl,rfl⟩
  .exact⟨20,rfl,rfl⟩
  .exact⟨21,rfl,rfl⟩
  exact⟨23,rfl,rfl⟩
 have hi:∃o,ops[i]? = some o:=by
  unfold zah at hd;cases ho:ops[i]? with
  |none=>rw[ho]at hd;cases hd
  |some o=>exact⟨o,rfl⟩
 obtain⟨o,ho⟩:=hi;rcases o7 i o ho with⟨rfl,rfl⟩|⟨rfl,rfl⟩|⟨rfl,rfl⟩|⟨rfl,rfl⟩|⟨rfl,rfl⟩|⟨rfl,rfl⟩|⟨rfl,rfl⟩|⟨rfl,rfl⟩|⟨rfl,rfl⟩|⟨rfl,rfl⟩|⟨rfl,rfl⟩|⟨rfl,rfl⟩|⟨rfl,rfl⟩|⟨rfl,rfl⟩|⟨rfl,rfl⟩|⟨rfl,rfl⟩|⟨rfl,rfl⟩|⟨rfl,rfl⟩|⟨rfl,rfl⟩|⟨rfl,rfl⟩|⟨rfl,rfl⟩|⟨rfl,rfl⟩|⟨rfl,rfl⟩|⟨rfl,rfl⟩
 .have e:d=9:=by have:some 9=some d:=hd;cases this;rfl
  subst e;simp[pairs,val]
 .have e:d=10:=by have:some 10=some d:=hd;cases this;rfl
  subst e;simp[pairs,val]
 .have e:d=11:=by have:some 11=some d:=hd;cases this;rfl
  subst e;simp[pairs,val]
 .have e:d=12:=by have:some 12=some d:=hd;cases this;rfl
  subst e;simp[pairs,val]
 .have e:d=13:=by have:some 13=some d:=hd;cases this;rfl
  subst e;simp[pairs,val]
 .have e:d=14:=by have:some 14=some d:=hd;cases this;rfl
  subst e;simp[pairs,val]
 .have e:d=15:=by have:some 15=some d:=hd;cases this;rfl
  subst e;simp[pairs,val]
 .have e:d=16:=by have:some 16=some d:=hd;cases this;rfl
  subst e;simp[pairs,val]
 .have e:d=17:=by have:some 17=some d:=hd;cases this;rfl
  subst e;simp[pairs,val]
 .have e:d=18:=by have:some 18=some d:=hd;cases this;rfl
  subst e;simp[pairs,val]
 .have e:d=19:=by have:some 19=some d:=hd;cases this;rfl
  subst e;simp[pairs,val]
 .have e:d=20:=by have:some 20=some d:=hd;cases this;rfl
  subst e;simp[pairs,val]
 .have e:d=21:=by have:some 21=some d:=hd;cases this;rfl
  subst e;simp[pairs,val]
 .have e:d=22:=by have:some 22=some d:=hd;cases this;rfl
  subst e;simp[pairs,val]
 .have e:d=23:=by have:some 23=some d:=hd;cases this;rfl
  subst e;simp[pairs,val]
 .have e:d=24:=by have:some 24=some d:=hd;cases this;rfl
  subst e;simp[pairs,val]
 .have e:d=25:=by have:some 25=some d:=hd;cases this;rfl
  subst e;simp[pairs,val]
 .have e:d=26:=by have:some 26=some d:=hd;cases this;rfl
  subst e;simp[pairs,val]
 .have e:d=8:=by have:some 8=some d:=hd;cases this;rfl
  subst e;simp[pairs,val]
 .have e:d=27:=by have:some 27=some d:=hd;cases this;rfl
  subst e;simp[pairs,val]
 .have e:d=28:=by have:some 28=some d:=hd;cases this;rfl
  subst e;simp[pairs,val]
 .have e:d=4:=by have:some 4=some d:=hd;cases this;rfl
  subst e;simp[pairs,val]
 .cases hd
 have e:d=5:=by have:some 5=some d:=hd;cases this;rfl
 subst e;simp[pairs,val]
section
variable(ρ:Operand->Value)(w:World){kd mb fb gb B K x:Nat}{ma n:Int}
theorem r0(h0:ρ (.tmp 0)=.pointer (some ⟨kd,0,none⟩)):(execOp ρ n0).run Tryz.prog w=.ok (.value (.pointer (some ⟨kd,0,none⟩))) w:=by
 unfold n0
 go_simp
theorem r1(h9:ρ (.tmp 9)=.pointer (some ⟨kd,0,none⟩)):(execOp ρ n1).run Tryz.prog w=.ok (.value (.pointer (some ⟨kd,0,none⟩))) w:=by
 unfold n1
 go_simp
theorem r2(h10:ρ (.tmp 10)=.pointer (some ⟨kd,0,none⟩)):(execOp ρ n2).run Tryz.prog w=.ok (.value (.pointer (some ⟨kd,0,none⟩))) w:=by
 unfold n2
 go_simp
theorem r3(h11:ρ (.tmp 11)=.pointer (some ⟨kd,0,none⟩)):(execOp ρ n3).run Tryz.prog w=.ok (.value (.pointer (some ⟨kd,0,none⟩))) w:=by
 unfold n3
 go_simp
theorem r4(h12:ρ (.tmp 12)=.pointer (some ⟨kd,0,none⟩))(c0:w.cell? ⟨kd,0,none⟩=some (.pointer (some ⟨mb,0,none⟩))):(execOp ρ n4).run Tryz.prog w=.ok (.value (.pointer (some ⟨mb,0,none⟩))) w:=by
 unfold n4
 go_simp
theorem r5(h13:ρ (.tmp 13)=.pointer (some ⟨mb,0,none⟩)):(execOp ρ n5).run Tryz.prog w=.ok (.value (.pointer (some ⟨mb,0,none⟩))) w:=by
 unfold n5
 go_simp
theorem r6(h14:ρ (.tmp 14)=.pointer (some ⟨mb,0,none⟩)):(execOp ρ n6).run Tryz.prog w=.ok (.value (.pointer (some ⟨mb,5,none⟩))) w:=by
 unfold n6
 go_simp
theorem r7(h15:ρ (.tmp 15)=.pointer (some ⟨mb,5,none⟩))(c0:w.cell? ⟨mb,5,none⟩=some (.pointer (some ⟨fb,0,none⟩))):(execOp ρ n7).run Tryz.prog w=.ok (.value (.pointer (some ⟨fb,0,none⟩))) w:=by
 unfold n7
 go_simp
theorem r8(h0:ρ (.tmp 0)=.pointer (some ⟨kd,0,none⟩)):(execOp ρ n8).run Tryz.prog w=.ok (.value (.pointer (some ⟨kd,0,none⟩))) w:=by
 unfold n8
 go_simp
theorem r9(h17:ρ (.tmp 17)=.pointer (some ⟨kd,0,none⟩)):(execOp ρ n9).run Tryz.prog w=.ok (.value (.pointer (some ⟨kd,0,none⟩))) w:=by
 unfold n9
 go_simp
theorem r10(h18:ρ (.tmp 18)=.pointer (some ⟨kd,0,none⟩)):(execOp ρ n10).run Tryz.prog w=.ok (.value (.pointer (some ⟨kd,0,none⟩))) w:=by
 unfold n10
 go_simp
theorem r11(h19:ρ (.tmp 19)=.pointer (some ⟨kd,0,none⟩)):(execOp ρ n11).run Tryz.prog w=.ok (.value (.pointer (some ⟨kd,0,none⟩))) w:=by
 unfold n11
 go_simp
theorem r12(h20:ρ (.tmp 20)=.pointer (some ⟨kd,0,none⟩))(c0:w.cell? ⟨kd,0,none⟩=some (.pointer (some ⟨mb,0,none⟩))):(execOp ρ n12).run Tryz.prog w=.ok (.value (.pointer (some ⟨mb,0,none⟩))) w:=by
 unfold n12
 go_simp
theorem r13(h21:ρ (.tmp 21)=.pointer (some ⟨mb,0,none⟩)):(execOp ρ n13).run Tryz.prog w=.ok (.value (.pointer (some ⟨mb,0,none⟩))) w:=by
 unfold n13
 go_simp
theorem r14(h22:ρ (.tmp 22)=.pointer (some ⟨mb,0,none⟩)):(execOp ρ n14).run Tryz.prog w=.ok (.value (.pointer (some ⟨mb,12,none⟩))) w:=by
 unfold n14
 go_simp
theorem r15(h23:ρ (.tmp 23)=.pointer (some ⟨mb,12,none⟩))(c0:w.cell? ⟨mb,12,none⟩=some (.pointer (some ⟨gb,0,none⟩))):(execOp ρ n15).run Tryz.prog w=.ok (.value (.pointer (some ⟨gb,0,none⟩))) w:=by
 unfold n15
 go_simp
theorem r18(h26:ρ (.tmp 26)=.tuple #[.agg #[.int .i64 n,.slice (some ⟨B,0,none⟩) K K],.int .i64 0]):(execOp ρ n18).run Tryz.prog w=.ok (.value (.tuple #[.agg #[.int .i64 n,.slice (some ⟨B,0,none⟩) K K],.int .i64 0])) w:=by
 unfold n18
 go_simp
theorem r19(h8:ρ (.tmp 8)=.tuple #[.agg #[.int .i64 n,.slice (some ⟨B,0,none⟩) K K],.int .i64 0]):(execOp ρ n19).run Tryz.prog w=.ok (.value (.agg #[.int .i64 n,.slice (some ⟨B,0,none⟩) K K])) w:=by
 unfold n19
 go_simp
theorem r20(h8:ρ (.tmp 8)=.tuple #[.agg #[.int .i64 n,.slice (some ⟨B,0,none⟩) K K],.int .i64 0]):(execOp ρ n20).run Tryz.prog w=.ok (.value (.int .i64 0)) w:=by
 unfold n20
 go_simp
theorem r23(h28:ρ (.tmp 28)=.int .i64 0):(execOp ρ n23).run Tryz.prog w=.ok (.value (.int .i64 0)) w:=by
 unfold n23
 go_simp
theorem rM(hf:ρ (.func 48)=.func (.func 48) #[] #[])(h:ρ (.tmp 24)=.pointer (some ⟨gb,0,none⟩)):(execOp ρ n16).run Tryz.prog w=.ok (.enter 48 #[.pointer (some ⟨gb,0,none⟩)]) w:=by
 unfold n16
 go_simp
theorem rD(hf:ρ (.func 255)=.func (.func 255) #[] #[])(h:ρ (.tmp 16)=.pointer (some ⟨fb,0,none⟩))(h2:ρ (.tmp 25)=.int .i64 ma):(execOp ρ n17).run Tryz.prog w=.ok (.enter 255 #[.pointer (some ⟨fb,0,none⟩),.int .i64 ma]) w:=by
 unfold n17
 go_simp
theorem rA:(execOp ρ n21).run Tryz.prog w=.ok (.value (.pointer (some ⟨w.heap.size,0,none⟩))) (w.alloc (.cells #[.int .i64 0,.slice none 0 0] 54)):=by
 unfold n21
 go_simp
theorem rS(h1:ρ (.tmp 4)=.pointer (some ⟨x,0,none⟩))(h2:ρ (.tmp 27)=.agg #[.int .i64 n,.slice (some ⟨B,0,none⟩) K K])(hb:w.heap[x]? = some (.cells #[.int .i64 0,.slice none 0 0] 54 (0,0))):(execOp ρ n22).run Tryz.prog w=.ok .skip ((w.setCell ⟨x,0,none⟩ (.int .i64 n)).setCell ⟨x,1,none⟩ (.slice (some ⟨B,0,none⟩) K K)):=by
 have c0:w.cell? ⟨x,0,none⟩=some (.int .i64 0):=by rw[crw hb];rfl
 have c1:w.cell? ⟨x,1,none⟩=some (.slice none 0 0):=by rw[crw hb];rfl
 have f0:∀j,w.frozen? ⟨x,j,none⟩=false:=fun j=>by simp[World.frozen?,hb]
 unfold n22
 go_simp
end
def Wd(w1:World)(B K:Nat)(n:Int)(J0 J1:World->Prop)(x:Nat)(L:Nat->Bool)(w:World):Prop:=
 (L 22=false/\w1.heap.size<=w.heap.size/\(L 17=false->J0 w)/\(L 17=true->J1 w)/\(L 21=true->w1.heap.size<=x/\w.heap[x]? = some (.cells #[.int .i64 0,.slice none 0 0] 54 (0,0)))) \/
 (L 22=true/\∃w',J1 w'/\w1.heap.size<=x/\w'.heap[x]? = some (.cells #[.int .i64 0,.slice none 0 0] 54 (0,0))/\w=(w'.setCell ⟨x,0,none⟩ (.int .i64 n)).setCell ⟨x,1,none⟩ (.slice (some ⟨B,0,none⟩) K K))
theorem Wd.read{w1 w:World}{B K x i:Nat}{n:Int}{J0 J1:World->Prop}{L:Nat->Bool}(h:Wd w1 B K n J0 J1 x L w)(h1:i≠17)(h2:i≠21)(h3:i≠22):Wd w1 B K n J0 J1 x (updB L i) w:=by
 unfold Wd;rw[zck L (Ne.symm h1),zck L (Ne.symm h2),zck L (Ne.symm h3)];exact h
theorem reg{Q:Exit->Act->World->Prop}{a0:Act}{w1:World}{id:Nat}{kd mb fb gb B K:Nat}{ma n:Int}{J0 J1:World->Prop}(hz:a0.tmps.size=66)(t0:env a0 0=.pointer (some ⟨kd,0,none⟩))(q0:∀w w',J0 w->Fr [] w w'->J0 w')(q1:∀w w',J1 w->Fr [] w w'->J1 w')(h0:J0 w1)(hc:∀w,J0 w->w.cell? ⟨kd,0,none⟩=some (.pointer (some ⟨mb,0,none⟩))/\w.cell? ⟨mb,5,none⟩=some (.pointer (some ⟨fb,0,none⟩))/\w.cell? ⟨mb,12,none⟩=some (.pointer (some ⟨gb,0,none⟩)))(hM:∀w,J0 w->Calls Tryz.prog 48 #[.pointer (some ⟨gb,0,none⟩)] w fun e w'=>e=.returned (.int .i64 ma)/\Fr [] w w')(hDi:∀w,J0 w->Calls Tryz.prog 255 #[.pointer (some ⟨fb,0,none⟩),.int .i64 ma] w fun e w'=>e=.returned (.tuple #[.agg #[.int .i64 n,.slice (some ⟨B,0,none⟩) K K],.int .i64 0])/\J1 w'/\w.heap.size<=w'.heap.size/\∀x o,w1.heap.size<=x->w.heap[x]? = some o->w'.heap[x]? = some o)(hend:∀x w',J1 w'->w1.heap.size<=x->w'.heap[x]? = some (.cells #[.int .i64 0,.slice none 0 0] 54 (0,0))->Q .normal (puts a0 (pairs kd mb fb gb B K ma n x)) ((w'.setCell ⟨x,0,none⟩ (.int .i64 n)).setCell ⟨x,1,none⟩ (.slice (some ⟨B,0,none⟩) K K))) :
  (Code.region id ops true).wp Tryz.prog Q a0 w1:=by
 refine zlu (val:=val kd mb fb gb B K ma n) (W:=Wd w1 B K n J0 J1) (pairs kd mb fb gb B K ma n) 0 (by kernel_rfl) hN (hg hz) ?_ hlex (hD kd mb fb gb B K ma n) (Or.inl ⟨rfl,(Fr.drew [] w1).size,fun _=>q0 _ _ h0 (Fr.drew [] w1),fun h=>(by cases h),fun h=>(by cases h)⟩) ?_
 .intro ii o ho x L a w hLi hdl hcl hdv hsame hza hW;have hno:∀t,some t∉dl->env a t=env a0 t:=fun t ht=>hsame t (fun j hj=>by
   rw[dst]at hj
   cases h:dl[j]? with
   |none=>rw[h]at hj;cases hj
   |some y=>rw[h]at hj;exact ht (List.mem_of_getElem? (by rw[h];exact congrArg some hj)))
  have s0:env a 0=.pointer (some ⟨kd,0,none⟩):=(hno 0 (by decide)).trans t0;rcases o7 ii o ho with⟨rfl,rfl⟩|⟨rfl,rfl⟩|⟨rfl,rfl⟩|⟨rfl,rfl⟩|⟨rfl,rfl⟩|⟨rfl,rfl⟩|⟨rfl,rfl⟩|⟨rfl,rfl⟩|⟨rfl,rfl⟩|⟨rfl,rfl⟩|⟨rfl,rfl⟩|⟨rfl,rfl⟩|⟨rfl,rfl⟩|⟨rfl,rfl⟩|⟨rfl,rfl⟩|⟨rfl,rfl⟩|⟨rfl,rfl⟩|⟨rfl,rfl⟩|⟨rfl,rfl⟩|⟨rfl,rfl⟩|⟨rfl,rfl⟩|⟨rfl,rfl⟩|⟨rfl,rfl⟩|⟨rfl,rfl⟩
  .exact zak (r0 _ _ s0) (hW.read (by decide) (by decide) (by decide))
  .exact zak (r1 _ _ (hdv 0 9 (by simp[dep,ops,n1,Region.binds]) rfl)) (hW.read (by decide) (by decide) (by decide))
  .exact zak (r2 _ _ (hdv 1 10 (by simp[dep,ops,n2,Region.binds]) rfl)) (hW.read (by decide) (by decide) (by decide))
  .exact zak (r3 _ _ (hdv 2 11 (by simp[dep,ops,n3,Region.binds]) rfl)) (hW.read (by decide) (by decide) (by decide))
  .have hDn:L 17=false:=by
    cases h:L 17 with
    |false=>rfl
    |true=>have:=clD L hcl h 4 (by decide);rw[hLi]at this;cases this
   have hS:L 22=false:=by
    cases h:L 22 with
    |false=>rfl
    |true=>have:=hcl 22 4 h (by simp[dep,ops,n22,Region.binds]);rw[hLi]at this;cases this
   obtain⟨_,hsz,hJ0,hJ1,hAx⟩:L 22=false/\w1.heap.size<=w.heap.size/\(L 17=false->J0 w)/\(L 17=true->J1 w)/\(L 21=true->w1.heap.size<=x/\w.heap[x]? = some (.cells #[.int .i64 0,.slice none 0 0] 54 (0,0))):=by
    rcases hW with h|h
    .exact h
    rw[hS]at h;cases h.1
   exact zak (r4 _ _ (hdv 3 12 (by simp[dep,ops,n4,Region.binds]) rfl) (hc w (hJ0 hDn)).1) (hW.read (by decide) (by decide) (by decide))
  .exact zak (r5 _ _ (hdv 4 13 (by simp[dep,ops,n5,Region.binds]) rfl)) (hW.read (by decide) (by decide) (by decide))
  .exact zak (r6 _ _ (hdv 5 14 (by simp[dep,ops,n6,Region.binds]) rfl)) (hW.read (by decide) (by decide) (by decide))
  .have hDn:L 17=false:=by
    cases h:L 17 with
    |false=>rfl
    |true=>have:=clD L hcl h 7 (by decide);rw[hLi]at this;cases this
   have hS:L 22=false:=by
    cases h:L 22 with
    |false=>rfl
    |true=>have:=hcl 22 7 h (by simp[dep,ops,n22,Region.binds]);rw[hLi]at this;cases this
   obtain⟨_,hsz,hJ0,hJ1,hAx⟩:L 22=false/\w1.heap.size<=w.heap.size/\(L 17=false->J0 w)/\(L 17=true->J1 w)/\(L 21=true->w1.heap.size<=x/\w.heap[x]? = some (.cells #[.int .i64 0,.slice none 0 0] 54 (0,0))):=by
    rcases hW with h|h
    .exact h
    rw[hS]at h;cases h.1
   exact zak (r7 _ _ (hdv 6 15 (by simp[dep,ops,n7,Region.binds]) rfl) (hc w (hJ0 hDn)).2.1) (hW.read (by decide) (by decide) (by decide))
  .exact zak (r8 _ _ s0) (hW.read (by decide) (by decide) (by decide))
  .exact zak (r9 _ _ (hdv 8 17 (by simp[dep,ops,n9,Region.binds]) rfl)) (hW.read (by decide) (by decide) (by decide))
  .exact zak (r10 _ _ (hdv 9 18 (by simp[dep,ops,n10,Region.binds]) rfl)) (hW.read (by decide) (by decide) (by decide))
  .exact zak (r11 _ _ (hdv 10 19 (by simp[dep,ops,n11,Region.binds]) rfl)) (hW.read (by decide) (by decide) (by decide))
  .have hDn:L 17=false:=by
    cases h:L 17 with
    |false=>rfl
    |true=>have:=clD L hcl h 12 (by decide);rw[hLi]at this;cases this
   have hS:L 22=false:=by
    cases h:L 22 with
    |false=>rfl
    |true=>have:=hcl 22 12 h (by simp[dep,ops,n22,Region.binds]);rw[hLi]at this;cases this
   obtain⟨_,hsz,hJ0,hJ1,hAx⟩:L 22=false/\w1.heap.size<=w.heap.size/\(L 17=false->J0 w)/\(L 17=true->J1 w)/\(L 21=true->w1.heap.size<=x/\w.heap[x]? = some (.cells #[.int .i64 0,.slice none 0 0] 54 (0,0))):=by
    rcases hW with h|h
    .exact h
    rw[hS]at h;cases h.1
   exact zak (r12 _ _ (hdv 11 20 (by simp[dep,ops,n12,Region.binds]) rfl) (hc w (hJ0 hDn)).1) (hW.read (by decide) (by decide) (by decide))
  .exact zak (r13 _ _ (hdv 12 21 (by simp[dep,ops,n13,Region.binds]) rfl)) (hW.read (by decide) (by decide) (by decide))
  .exact zak (r14 _ _ (hdv 13 22 (by simp[dep,ops,n14,Region.binds]) rfl)) (hW.read (by decide) (by decide) (by decide))
  .have hDn:L 17=false:=by
    cases h:L 17 with
    |false=>rfl
    |true=>have:=clD L hcl h 15 (by decide);rw[hLi]at this;cases this
   have hS:L 22=false:=by
    cases h:L 22 with
    |false=>rfl
    |true=>have:=hcl 22 15 h (by simp[dep,ops,n22,Region.binds]);rw[hLi]at this;cases this
   obtain⟨_,hsz,hJ0,hJ1,hAx⟩:L 22=false/\w1.heap.size<=w.heap.size/\(L 17=false->J0 w)/\(L 17=true->J1 w)/\(L 21=true->w1.heap.size<=x/\w.heap[x]? = some (.cells #[.int .i64 0,.slice none 0 0] 54 (0,0))):=by
    rcases hW with h|h
    .exact h
    rw[hS]at h;cases h.1
   exact zak (r15 _ _ (hdv 14 23 (by simp[dep,ops,n15,Region.binds]) rfl) (hc w (hJ0 hDn)).2.2) (hW.read (by decide) (by decide) (by decide))
  .have hDn:L 17=false:=by
    cases h:L 17 with
    |false=>rfl
    |true=>have:=clD L hcl h 16 (by decide);rw[hLi]at this;cases this
   have hS:L 22=false:=by
    cases h:L 22 with
    |false=>rfl
    |true=>have:=hcl 22 16 h (by simp[dep,ops,n22,Region.binds]);rw[hLi]at this;cases this
   obtain⟨_,hsz,hJ0,hJ1,hAx⟩:L 22=false/\w1.heap.size<=w.heap.size/\(L 17=false->J0 w)/\(L 17=true->J1 w)/\(L 21=true->w1.heap.size<=x/\w.heap[x]? = some (.cells #[.int .i64 0,.slice none 0 0] 54 (0,0))):=by
    rcases hW with h|h
    .exact h
    rw[hS]at h;cases h.1
   unfold Oper.wp;rw[rM a.eval w rfl (hdv 15 24 (by simp[dep,ops,n16,Region.binds]) rfl),Oper.upon_enter];refine (hM w (hJ0 hDn)).mono ?_;rintro e w'⟨rfl,hf⟩;refine⟨x,rfl,fun _ _=>rfl,?_⟩;unfold Wd;rw[zck L (show 17≠16 by decide),zck L (show 21≠16 by decide),zck L (show 22≠16 by decide)];exact Or.inl ⟨hS,Nat.le_trans hsz hf.size,fun h=>q0 _ _ (hJ0 h) hf,fun h=>q1 _ _ (hJ1 h) hf,fun h=>⟨(hAx h).1,hf.keep (hAx h).2 (by simp)⟩⟩
  .have hS:L 22=false:=by
    cases h:L 22 with
    |false=>rfl
    |true=>have:=hcl 22 17 h (by simp[dep,ops,n22,Region.binds]);rw[hLi]at this;cases this
   obtain⟨_,hsz,hJ0,hJ1,hAx⟩:L 22=false/\w1.heap.size<=w.heap.size/\(L 17=false->J0 w)/\(L 17=true->J1 w)/\(L 21=true->w1.heap.size<=x/\w.heap[x]? = some (.cells #[.int .i64 0,.slice none 0 0] 54 (0,0))):=by
    rcases hW with h|h
    .exact h
    rw[hS]at h;cases h.1
   unfold Oper.wp;rw[rD a.eval w rfl (hdv 7 16 (by simp[dep,ops,n17,Region.binds]) rfl) (hdv 16 25 (by simp[dep,ops,n17,Region.binds]) rfl),Oper.upon_enter];refine (hDi w (hJ0 hLi)).mono ?_;rintro e w'⟨rfl,k1,k2,k3⟩;refine⟨x,rfl,fun _ _=>rfl,?_⟩;unfold Wd;rw[zhs,zck L (show 21≠17 by decide),zck L (show 22≠17 by decide)];exact Or.inl ⟨hS,Nat.le_trans hsz k2,fun h=>(by cases h),fun _=>k1,fun h=>⟨(hAx h).1,k3 x _ (hAx h).1 (hAx h).2⟩⟩
  .exact zak (r18 _ _ (hdv 17 26 (by simp[dep,ops,n18,Region.binds]) rfl)) (hW.read (by decide) (by decide) (by decide))
  .exact zak (r19 _ _ (hdv 18 8 (by simp[dep,ops,n19,Region.binds]) rfl)) (hW.read (by decide) (by decide) (by decide))
  .exact zak (r20 _ _ (hdv 18 8 (by simp[dep,ops,n20,Region.binds]) rfl)) (hW.read (by decide) (by decide) (by decide))
  .have hS:L 22=false:=by
    cases h:L 22 with
    |false=>rfl
    |true=>have:=hcl 22 21 h (by simp[dep,ops,n22,Region.binds]);rw[hLi]at this;cases this
   obtain⟨_,hsz,hJ0,hJ1,hAx⟩:L 22=false/\w1.heap.size<=w.heap.size/\(L 17=false->J0 w)/\(L 17=true->J1 w)/\(L 21=true->w1.heap.size<=x/\w.heap[x]? = some (.cells #[.int .i64 0,.slice none 0 0] 54 (0,0))):=by
    rcases hW with h|h
    .exact h
    rw[hS]at h;cases h.1
   have hf:Fr [] w (w.alloc (.cells #[.int .i64 0,.slice none 0 0] 54)):=Fr.alloc _ _ _;unfold Oper.wp;rw[rA a.eval w];refine⟨w.heap.size,rfl,fun j hj=> ?_,?_⟩
   .by_cases e:j=21
    .subst e;rw[hLi]at hj;cases hj
    unfold val;split<;>first|rfl|omega
   unfold Wd;rw[zhs,zck L (show 17≠21 by decide),zck L (show 22≠21 by decide)];exact Or.inl ⟨hS,Nat.le_trans hsz hf.size,fun h=>q0 _ _ (hJ0 h) hf,fun h=>q1 _ _ (hJ1 h) hf,fun _=>⟨hsz,heap_alloc_new _ _⟩⟩
  .have hS:L 22=false:=hLi;obtain⟨_,hsz,hJ0,hJ1,hAx⟩:L 22=false/\w1.heap.size<=w.heap.size/\(L 17=false->J0 w)/\(L 17=true->J1 w)/\(L 21=true->w1.heap.size<=x/\w.heap[x]? = some (.cells #[.int .i64 0,.slice none 0 0] 54 (0,0))):=by
    rcases hW with h|h
    .exact h
    rw[hS]at h;cases h.1
   have hA:=hAx (hdl 21 (by simp[dep,ops,n22,Region.binds]));have hDd:L 17=true:=hdl 17 (by simp[dep,ops,n22,Region.binds]);unfold Oper.wp;rw[rS a.eval w (hdv 21 4 (by simp[dep,ops,n22,Region.binds]) rfl) (hdv 19 27 (by simp[dep,ops,n22,Region.binds]) rfl) hA.2];refine⟨x,rfl,fun j hj=>rfl,?_⟩;unfold Wd;rw[zhs];exact Or.inr ⟨rfl,w,hJ1 hDd,hA.1,hA.2,rfl⟩
  exact zak (r23 _ _ (hdv 20 28 (by simp[dep,ops,n23,Region.binds]) rfl)) (hW.read (by decide) (by decide) (by decide))
 intro x L w hL hW;rcases hW with⟨h,_⟩|⟨_,w',a1,a2,a3,rfl⟩
 .rw[hL 22 (by decide)]at h;cases h
 exact hend x w' a1 a2 a3
end Kf
end Go.Proofs.YtaigdcmoecgabaaGreat
