/- Contracts and lemmas. -/
import Derived.Test.YtojjdnjfaelnfaaGreatDoorGp33
import Derived.Test.YtojjdnjfaelnfaaGreatDoorGp36
set_option maxHeartbeats 4000000
set_option maxRecDepth 100000
set_option linter.unusedSimpArgs false
set_option linter.unusedVariables false
namespace Go.Proofs.YtojjdnjfaelnfaaGreatDoor
open Go.ChangeShapes Go.WideShapes Go.ChangeAt Go.RowKit Go.Lib Go.Maps Go.Proofs.Tryz
section
variable{w0 w w':World}{c:Cf}{T:List Tx}{Z:Lay}{s:Ms}
theorem zzb(h:MaM w0 w c T Z s){i:Nat}(hi:i<c.l.toNat){g:Hl}(hn:s.ln i=some g)(ho:0<g.out)(f:Int) :
  Calls prog 288 #[.pointer (some ⟨Z.z.kw i,0,none⟩),.agg #[.int .i64 f,.bool true,.slice none 0 0,.slice none 0 0,.int .i64 0]] w fun e w'=>e=.returned (.int .i64 g.n)/\Dn w0 c T w Z s w' {Z with S:=upd Z.S i (Z.S i)} {s with ln:=upd s.ln i (some (ackH g))}:=by
 obtain⟨w1,HW1⟩:∃w1,Hid (w.alloc (.cells #[.int .i64 f,.bool true,.slice none 0 0,.slice none 0 0,.int .i64 0] 429)=w1):=⟨_,rfl⟩;have hF1:Fr [] w w1:=by rw[<-HW1.out];exact Fr.alloc _ _ _
 have h1:=h.quiet hF1;have c2:w1.cell? ⟨Z.z.kw i,2,none⟩=some (.pointer (some ⟨Z.z.la i,0,none⟩)):=(h1.kwc hi).2.2;rw[<-HW1.out]at c2
 have HA:Hid (Calls prog 325 #[.pointer (some ⟨Z.z.la i,0,none⟩)] w1 fun e w'=>e=.returned (.int .i64 0)/\w'.cell? ⟨Z.z.kw i,2,none⟩=some (.pointer (some ⟨Z.z.la i,0,none⟩))/\Hid (Calls prog 93 #[.pointer (some ⟨Z.z.la i,0,none⟩)] w' fun e w''=>e=.returned (.int .i64 g.n)/\Dn w0 c T w Z s w'' {Z with S:=upd Z.S i (Z.S i)} {s with ln:=upd s.ln i (some (ackH g))})):=by
  have hla:=h1.la hi;rw[hn]at hla
  refine Calls.mono (zvq hla) ?_;rintro e w'⟨rfl,k1,k2⟩;obtain⟨gn,gl,go⟩:=g;obtain⟨o,rfl⟩:∃o,go=o+1:=⟨go-1,by simp only at ho;omega⟩;have k1':LnM w' (Z.z.la i) ((i+1:Nat):Int) c.l c.s c.w c.q (some (ackH ⟨gn,gl,o+1⟩)) (Z.S i):=k1;have hD:=h1.setLa hi k2 (fun b hb _=>by simpa using hb) k1' (fun b hb=>Or.inl hb) (Nat.le_refl _);have hD2:=(h.dn hF1).trans hD;refine⟨rfl,(hD2.kwc hi).2,?_⟩;refine (zcb k1').mono ?_;rintro e w''⟨rfl,k3⟩;exact⟨rfl,hD2.trans (hD2.m.dn k3)⟩
 clear h hF1 h1 hn ho;go_enter func288,ntmps288;go_wp2_with fail
 rw[HW1.out];clear HW1;refine Calls.mono HA.out ?_;rintro e w2⟨rfl,d2,HH⟩;clear HA c2;go_wp2_with fail
 refine Calls.mono HH.out ?_;rintro e w3⟨rfl,hD⟩;have HD:Hid (Dn w0 c T w Z s w3 _ _):=hD;clear hD;go_wp2;go_ret;exact⟨rfl,HD.out⟩
end
section
variable{w0 w w':World}{c:Cf}{T:List Tx}{Z:Lay}{s:Ms}
theorem Dn.finS{w1 w9:World}{S:List Nat}{Z':Lay}{s':Ms}(k:Dn w0 c T w1 Z s w9 Z' s')(h:MaM w0 w c T Z s)(h1:Fr [] w w1)(hS:∀b∈S,w.heap.size<=b/\MaM.off w0 w9 c T Z' s' b)(hf:Fr S w9 w'):Dn w0 c T w Z s w' Z' s':=by
 have hS':∀b∈S,w0.heap.size<=b/\MaM.off w0 w9 c T Z' s' b:=fun b hb=>⟨Nat.le_trans h.fr.size (hS b hb).1,(hS b hb).2⟩;have back:∀i b,(mP w0 c T Z s i).O w1 b->(mP w0 c T Z s i).O w b:=fun i b hb=>((h.m.ok i).keep [] w w1 (h.m.m i) h.m.fr h1 (by simp)).2 b hb;have hx:=k.x.from h1 fun i b hb=>Or.inl (back i b hb);refine⟨k.m.other hf hS',⟨?_,fun i b hb=> ?_⟩,k.z,k.y⟩
 .obtain⟨S2,sf,sS⟩:=hx.fr;refine⟨S2,sf.trans hf (fun x hx _=>hx) (fun x hx hl=> ?_),sS⟩;have:=(hS x hx).1;omega
 have hk:=((k.m.m.ok i).keep S w9 w' (k.m.m.m i) k.m.m.fr hf fun b hb hl=>⟨(hS' b hb).1,(hS' b hb).2 i⟩).2 b hb;exact hx.sub i b hk
theorem zafn(c:Cf)(Z:St){i:Nat}(hi:i<c.l.toNat):zbn c Z (i+1)=.iface 301 (.pointer (some ⟨Z.kw i,0,none⟩)):=by
 unfold zbn;rw[if_neg (by omega),if_pos (by omega)];rfl
theorem zef{w:World}{b j:Nat}{cs:Array Value}{t:TypeId}(x:Value)(h:w.heap[b]? = some (.cells cs t (0,0))):(w.setCell ⟨b,j,none⟩ x).heap[b]? = some (.cells (cs.setIfInBounds j x) t (0,0)):=by
 obtain⟨hlt,hk⟩:=Array.getElem?_eq_some_iff.1 h;show (w.heap.modify b _)[b]? = _;rw[Array.getElem?_modify,if_pos rfl,h];rfl
def Ebx(w:World)(b:Nat)(n sh:Int):Prop:=w.heap[b]? = some (.cells #[.int .i64 0,.int .u8 0,.int .i64 n,.int .i64 sh,.int .i64 0,.int .i64 0] 62 (0,0))
theorem zafo(h:MaM w0 w c T Z s)(hnr:Z.nr=s.d){j:Nat}(hj:j<c.s.toNat){e:Qe}{r:List Qe}(hq:s.qs j=e::r){i:Nat}{g:Hl}(hi:i<c.l.toNat)(hef:e.f=((i+1:Nat):Int))(hn:s.ln i=some g)(ho:0<g.out)(hen:1<=e.n/\e.n<=65536)(hy:okW e.x)(hno:∀v∈s.M j e.x.key,v.num≠e.n)(hk:s.k<16000000) :
  Calls prog 322 #[.pointer (some ⟨Z.z.kk j,0,none⟩),.int .u8 7] w fun e' w'=>∃M',O.PutM (s.M j) e.x.key ⟨e.n,e.x.val,e.x.drop⟩ M' true/\StP w0 c T w Z s g.n (j:Int) 0 (zaz s j e r g M') e' w':=by
 obtain⟨w1,HW1⟩:∃w1,Hid (w.alloc (.cells #[.int .i64 0,.int .u8 0,.int .i64 0,.int .i64 0,.int .i64 0,.int .i64 0] 62)=w1):=⟨_,rfl⟩;obtain⟨A,HA⟩:∃A,Hid (w.heap.size=A):=⟨_,rfl⟩;have hF1:Fr [] w w1:=by rw[<-HW1.out];exact Fr.alloc _ _ _
 have hBx:Bx w0 c T w1 Z s A:=by rw[<-HW1.out,<-HA.out];exact Bx.new h
 have h1:=h.quiet hF1;obtain⟨w2,HW2⟩:∃w2,Hid (w1.alloc (.cells #[.int .i64 0,.int .u8 0,.int .i64 0,.int .i64 0,.int .i64 0,.int .i64 0] 62)=w2):=⟨_,rfl⟩;obtain⟨E,HE⟩:∃E,Hid (w1.heap.size=E):=⟨_,rfl⟩;have hF2:Fr [] w1 w2:=by rw[<-HW2.out];exact Fr.alloc _ _ _
 have hBe:Bx w0 c T w2 Z s E:=by rw[<-HW2.out,<-HE.out];exact Bx.new h1
 have h2:=h1.quiet hF2;have hBa:Bx w0 c T w2 Z s A:=hBx.then (h1.dn hF2);have hAE:A<E:=by rw[<-HE.out];exact lt_of_block hBx.box
 have hwA:w.heap.size<=A:=by rw[HA.out];exact Nat.le_refl _
 obtain⟨k0,k1,k2,k3⟩:=h1.kkc hj;obtain⟨G,hG⟩:∃G,g.n=G:=⟨_,rfl⟩;obtain⟨EF,hEF⟩:∃EF,e.f=EF:=⟨_,rfl⟩;have HC1:Hid (∀w3,Fr [E] w2 w3->Ebx w3 E 0 j->w3.cell? ⟨Z.z.kk j,3,none⟩=some (.pointer (some ⟨Z.z.ob j,0,none⟩))/\Calls prog 324 #[.pointer (some ⟨Z.z.ob j,0,none⟩)] w3 fun e' w4=>e'=.returned (.tuple #[.agg #[.int .i64 EF,.bool true,.slice none 0 0,.slice none 0 0,.int .i64 0],.int .i64 0])/\Hid (∃M',O.PutM (s.M j) e.x.key ⟨e.n,e.x.val,e.x.drop⟩ M' true/\∀W,Fr [] w4 W->W.cell? ⟨Z.z.kk j,0,none⟩=some (.pointer (some ⟨Z.z.mb,0,none⟩))/\Calls prog 89 #[.pointer (some ⟨Z.z.mb,0,none⟩),.int .i64 EF] W (fun e5 w'=>e5=.returned (.tuple #[.iface 301 (.pointer (some ⟨Z.z.kw i,0,none⟩)),.bool true])/\Fr [] W w')/\Calls prog 288 #[.pointer (some ⟨Z.z.kw i,0,none⟩),.agg #[.int .i64 EF,.bool true,.slice none 0 0,.slice none 0 0,.int .i64 0]] W (fun e5 w7=>e5=.returned (.int .i64 G)/\Ebx w7 E 0 j/\∀w8,Fr [E] w7 w8->Ebx w8 A 0 0/\∀w9,Fr [A] w8 w9->∃Z',Dn w0 c T w Z s w9 Z' (zaz s j e r g M')/\Z'.nr=(zaz s j e r g M').d))):=fun w3 hf3 hb3=>by
  have hSE:∀b∈[E],w0.heap.size<=b/\MaM.off w0 w2 c T Z s b:=fun b hb=>by rw[List.mem_singleton.1 hb];exact⟨by have:=h.fr.size;omega,hBe.off⟩
  have h3:=h2.other hf3 hSE;have hoE:=h2.otherO hf3 hSE hBe.off;have hoA:=h2.otherO hf3 hSE hBa.off;have hbA:Ebx w3 A 0 0:=hf3.keep hBa.box (by simp;omega);have hF3:Fr [] w w3:=((hF1.then hF2).on hf3 (fun x hx=>by simp at hx;omega));refine⟨(h3.kkc hj).2.2.2,(zvv h3 hj hq hen hy hno hk).mono ?_⟩;rintro e' w4⟨rfl,M',Z4,hP,hD,hnr4⟩;refine⟨by rw[<-hEF],M',hP,fun W hf=> ?_⟩;have hD5:=hD.trans (hD.m.dn hf);have hm:=hD5.m;refine⟨by have:=(hm.kkc hj).1;rw[hD5.z]at this;exact this,?_,?_⟩
  .have hF:=zqz hm (q:=i+1) (by omega);rw[zafn c Z4.z hi,hD5.z,<-hef,hEF]at hF
   exact hF
  have hH:=zzb hm hi (g:=g) hn ho e.f;rw[hG,hEF,hD5.z]at hH
  refine hH.mono ?_;rintro e' w7⟨rfl,hD7⟩;have hD8:=hD5.trans hD7;have ob7:=hD8.keep hb3 hoE;refine⟨rfl,ob7,fun w8 hf8=> ?_⟩;have oA7:=hD8.off (lt_of_block hbA) hoA;have oE7:=hD8.off (lt_of_block hb3) hoE;have hD9:=hD8.finS h hF3 (S:=[E]) (fun b hb=>by rw[List.mem_singleton.1 hb];exact⟨by omega,oE7⟩) hf8;have bA8:Ebx w8 A 0 0:=hf8.keep (hD8.keep hbA hoA) (by simp;omega);have oA8:=hD8.m.otherO hf8 (fun b hb=>by rw[List.mem_singleton.1 hb];exact⟨by have:=h.fr.size;omega,oE7⟩) oA7;refine⟨bA8,fun w9 hf9=> ?_⟩;have hD10:=hD9.finS h (Fr.refl _ _) (S:=[A]) (fun b hb=>by rw[List.mem_singleton.1 hb];exact⟨hwA,oA8⟩) hf9;have es:zaz s j e r g M'={s with qs:=upd s.qs j r,ln:=upd s.ln i (some (ackH g)),M:=upd s.M j M',k:=s.k+1}:=by unfold zaz;rw[hef];rfl
  rw[es];exact⟨_,hD10,hnr4.trans hnr⟩
 rw[hG];clear h hnr hj hq hef hn ho hen hy hno hk hF1 hBx h1 hF2 hBe h2 hBa hG hEF hwA;have HAE:Hid (A<E):=hAE;clear hAE;go_enter func322,ntmps322;go_upto_region 1 with fail
 rw[HW1.out,HA.out];clear HW1 HA;go_wp2_with (first
  |(refine zak rfl _ _ rfl w1.heap.size 0 0 0 (j:Int) 0 0 rfl rfl 0 0 0 0 0 0 (heap_alloc_new w1 _) ?_;rw[HW2.out,HE.out];clear HW2 HE;intro w3 hb3 hf3;obtain⟨d3,hC⟩:=HC1.out w3 hf3 hb3.out;have HC:Hid (Calls ..):=hC;clear hC HC1 hf3 hb3)
  |fail)
 refine Calls.mono HC.out ?_;rintro e' w4⟨rfl,HP⟩;obtain⟨M',hP,hN⟩:=HP.out;have HPM:Hid (O.PutM _ _ _ _ _):=hP;have HN:Hid (∀W,_->_):=hN;clear HC HP hP hN d3;obtain⟨w5,HW5⟩:∃w5,Hid (w4.alloc (.cells #[.int .i64 EF,.bool true,.slice none 0 0,.slice none 0 0,.int .i64 0] 429)=w5):=⟨_,rfl⟩;obtain⟨TB,HTB⟩:∃TB,Hid (w4.heap.size=TB):=⟨_,rfl⟩;have hF5:Fr [] w4 w5:=by rw[<-HW5.out];exact Fr.alloc _ _ _
 have hb5:w5.heap[TB]? = some (.cells #[.int .i64 EF,.bool true,.slice none 0 0,.slice none 0 0,.int .i64 0] 429 (0,0)):=by rw[<-HW5.out,<-HTB.out];exact heap_alloc_new _ _
 have q0:∀y:Wq w5,y.W.cell? ⟨Z.z.kk j,0,none⟩=some (.pointer (some ⟨Z.z.mb,0,none⟩)):=fun y=>(HN.out y.W (hF5.then y.h)).1;have qb:∀y:Wq w5,y.W.cell? ⟨TB,0,none⟩=some (.int .i64 EF):=fun y=>by rw[crw (y.h.keep hb5 (by simp))];rfl
 have HFd:∀y:Wq w5,Calls prog 89 #[.pointer (some ⟨Z.z.mb,0,none⟩),.int .i64 EF] y.W fun e5 w'=>e5=.returned (.tuple #[.iface 301 (.pointer (some ⟨Z.z.kw i,0,none⟩)),.bool true])/\Fr [] y.W w':=fun y=>(HN.out y.W (hF5.then y.h)).2.1;have HB5:Hid (w5.heap[TB]? = _):=hb5;have HF5:Hid (Fr [] w4 w5):=hF5;clear hb5 hF5;go_upto_region 3 with fail
 rw[HW5.out,HTB.out];clear HW5 HTB;refine zfk (w1:=w5) (by kernel_rfl) (by kernel_rfl) (Fr.refl _ _) ?_
 repeat (go_big_quiet_step (first
  |(go_at_call 89;with_reducible refine (HFd _).mono ?_;exact fun e w3 hh=>⟨hh.1,⟨_,Fr.then (Wq.h _) hh.2⟩,rfl⟩)
  |simp[go_sem,q0,qb]))
 refine wpQuiet_nil ?_;rintro _⟨z,rfl⟩;have hbz:=z.h.keep HB5.out (by simp);have HH:Hid (Calls ..):=(HN.out z.W (HF5.out.then z.h)).2.2;have t0:z.W.cell? ⟨TB,0,none⟩=some (.int .i64 EF):=qb z;have t1:z.W.cell? ⟨TB,1,none⟩=some (.bool true):=by rw[crw hbz];rfl
 have t2:z.W.cell? ⟨TB,2,none⟩=some (.slice none 0 0):=by rw[crw hbz];rfl
 have t3:z.W.cell? ⟨TB,3,none⟩=some (.slice none 0 0):=by rw[crw hbz];rfl
 have t4:z.W.cell? ⟨TB,4,none⟩=some (.int .i64 0):=by rw[crw hbz];rfl
 have MM:=zafk (Z.z.kw i) z.W;obtain⟨wz,HWZ⟩:∃wz,wz=z.W:=⟨_,rfl⟩;rw[<-HWZ]at t0 t1 t2 t3 t4 MM HH ⊢
 clear HN HF5 HB5 q0 qb HFd hbz HWZ z;go_wp2_with (simp[go_sem,MM])
 refine Calls.mono HH.out ?_;rintro e' w7⟨rfl,hb7,hfin⟩;have HFin:Hid (∀w8,_->_):=hfin;have u2:w7.cell? ⟨E,2,none⟩=some (.int .i64 0):=by rw[crw hb7];rfl
 have z2:w7.frozen? ⟨E,2,none⟩=false:=by simp[World.frozen?,show w7.heap[E]? = _ from hb7]
 have HB7:Hid (Ebx w7 E 0 j):=hb7;clear hb7 hfin HH MM t0 t1 t2 t3 t4;obtain⟨w8,HW8⟩:∃w8,Hid (w7.setCell ⟨E,2,none⟩ (.int .i64 G)=w8):=⟨_,rfl⟩;have hF8:Fr [E] w7 w8:=by rw[<-HW8.out];exact Fr.set _ _ _ (by simp)
 have hb8:Ebx w8 E G j:=by rw[<-HW8.out];exact zef (.int .i64 G) HB7.out
 obtain⟨hA8,hfin⟩:=HFin.out w8 hF8;have HFin9:Hid (∀w9,_->_):=hfin;have e0:w8.cell? ⟨E,0,none⟩=some (.int .i64 0):=by rw[crw hb8];rfl
 have e1:w8.cell? ⟨E,1,none⟩=some (.int .u8 0):=by rw[crw hb8];rfl
 have e2:w8.cell? ⟨E,2,none⟩=some (.int .i64 G):=by rw[crw hb8];rfl
 have e3:w8.cell? ⟨E,3,none⟩=some (.int .i64 j):=by rw[crw hb8];rfl
 have e4:w8.cell? ⟨E,4,none⟩=some (.int .i64 0):=by rw[crw hb8];rfl
 have e5:w8.cell? ⟨E,5,none⟩=some (.int .i64 0):=by rw[crw hb8];rfl
 clear hF8 hb8 hfin HB7 HFin;go_upto_region 6 with fail
 rw[HW8.out];clear HW8 u2 z2;go_wp2_with (first
  |(refine zak rfl _ _ rfl A 0 0 G (j:Int) 0 0 rfl rfl 0 0 0 0 0 0 hA8 ?_;intro w9 hw9 hf9;have HF9:Hid _:=HFin9.out _ hf9;clear hf9)
  |fail)
 refine bodyPost_ret (zba rfl _ _ _ A _ rfl (zcs hw9.out)) rfl ?_;exact⟨M',HPM.out,rfl,HF9.out⟩
end
section
variable{w0 w w':World}{c:Cf}{T:List Tx}{Z:Lay}{s:Ms}
def kbU(kb:Int->Nat)(n:Int)(B:Nat):Int->Nat:=fun m=>if m=n then B else kb m
theorem zfn(kb:Int->Nat)(n:Int)(B:Nat):kbU kb n B n=B:=if_pos rfl
theorem zgc(kb:Int->Nat){n m:Int}(B:Nat)(h:m≠n):kbU kb n B m=kb m:=if_neg h
theorem zzc(T:List Tx)(kb:Int->Nat)(wt:Int->Prop){n:Int}(B:Nat)(h:¬wt n):wtF T (kbU kb n B) wt=wtF T kb wt:=by
 funext m
 unfold wtF;by_cases hm:wt m
 .rw[if_pos hm,if_pos hm,zgc kb B (fun e=>h (by rw[<-e];exact hm))]
 rw[if_neg hm,if_neg hm]
theorem zzd(T:List Tx)(kb:Int->Nat){l:List Int}{n:Int}(B:Nat)(h:n∉l):l.map (txR T (kbU kb n B))=l.map (txR T kb):=
 List.map_congr_left fun m hm=>by unfold txR;rw[zgc kb B (fun e=>h (by rw[<-e];exact hm))]
theorem MaM.heldB(h:MaM w0 w c T Z s)(hv:s.hv=true)(hrd:s.rd=s.d+1):∃B,Z.hw=.slice (some ⟨B,0,none⟩) (wsAt T s.rd).length (wsAt T s.rd).length:=by
 have hfe:=h.fe;have hm:=hfe.m;have hmay:=h.may;obtain⟨h1,B,ehw,hrow,hB0⟩:=hm.held (show (⟨s.rd,s.fd,c.w.toNat,s.hv,false⟩:F.Fe).hv=true from hv);have ews:wsAt T (s.rd:Int)=(Z.y.ts.getD (s.rd-1) Tm.zero).ws:=by
  unfold wsAt;rw[<-h.log,show ((s.rd:Int)-1).toNat=s.rd-1 by omega,zeb];rfl
 have eL:(Z.y.ts.getD (s.rd-1) Tm.zero).L=(wsAt T (s.rd:Int)).length:=by
  rw[ews];have hlt:s.rd-1<Z.y.ts.length:=by have a1:s.rd<=s.fd:=hm.rf;have a2:s.fd<=Z.y.ts.length:=hm.fl;omega
  have hmem:Z.y.ts.getD (s.rd-1) Tm.zero∈Z.y.ts:=by
   have:Z.y.ts.getD (s.rd-1) Tm.zero=Z.y.ts[s.rd-1]:=by simp[List.getD,hlt]
   rw[this];exact List.getElem_mem hlt
  obtain⟨k,e1,e2,e3,e4,e5,e6⟩:=hm.src.each _ hmem;exact e3
 exact⟨B,by rw[ehw,eL]⟩
theorem MaM.disF(h:MaM w0 w c T Z s)(hnr:Z.nr=s.d)(hv:s.hv=true)(hrd:s.rd=s.d+1)(hw:¬s.wt (s.rd:Int))(hl:(s.rd:Int)∉s.line)(hnear:(s.rd:Int)<=s.ma+c.w) :
  Calls prog 275 #[.pointer (some ⟨Z.z.fb,0,none⟩),.int .i64 s.ma] w fun e w'=>∃B,Z.hw=.slice (some ⟨B,0,none⟩) (wsAt T s.rd).length (wsAt T s.rd).length/\e=.returned (.tuple #[.agg #[.int .i64 (s.rd:Int),.slice (some ⟨B,0,none⟩) (wsAt T s.rd).length (wsAt T s.rd).length],.int .i64 0])/\w'.heap[B]? = some (.cells (wtsC (wsAt T s.rd)).toArray 91 (0,0))/\Dn w0 c T w Z s w' {Z with hw:=.slice none 0 0,kb:=kbU Z.kb s.rd B,nr:=Z.nr+1} {s with hv:=false}/\Fr [Z.z.fb] w w'/\∀b,w.heap.size<=b->MaM.off w0 w' c T {Z with hw:=.slice none 0 0,kb:=kbU Z.kb s.rd B,nr:=Z.nr+1} {s with hv:=false} b:=by
 have hfe:=h.fe;have hm:=hfe.m;have hmay:=h.may;obtain⟨h1,B,ehw,hrow,hB0⟩:=hm.held (show (⟨s.rd,s.fd,c.w.toNat,s.hv,false⟩:F.Fe).hv=true from hv);have ews:wsAt T (s.rd:Int)=(Z.y.ts.getD (s.rd-1) Tm.zero).ws:=by
  unfold wsAt;rw[<-h.log,show ((s.rd:Int)-1).toNat=s.rd-1 by omega,zeb];rfl
 have eL:(Z.y.ts.getD (s.rd-1) Tm.zero).L=(wsAt T (s.rd:Int)).length:=by
  rw[ews];have hlt:s.rd-1<Z.y.ts.length:=by have a1:s.rd<=s.fd:=hm.rf;have a2:s.fd<=Z.y.ts.length:=hm.fl;omega
  have hmem:Z.y.ts.getD (s.rd-1) Tm.zero∈Z.y.ts:=by
   have:Z.y.ts.getD (s.rd-1) Tm.zero=Z.y.ts[s.rd-1]:=by simp[List.getD,hlt]
   rw[this];exact List.getElem_mem hlt
  obtain⟨k,e1,e2,e3,e4,e5,e6⟩:=hm.src.each _ hmem;exact e3
 have hB:B<w.heap.size:=lt_of_block hrow;have dc:(⟨s.rd,s.fd,c.w.toNat,s.hv,false⟩:F.Fe).disC [] s.ma=0:=by
  have:=hmay.2.2.1;simp[F.Fe.disC,F.Fe.near,hv];omega
 refine (F.fDis_any hm s.ma).mono ?_;rintro e w'⟨rfl,k1,k2⟩;have dv:F.disV ⟨s.rd,s.fd,c.w.toNat,s.hv,false⟩ [] s.ma Z.hw=.agg #[.int .i64 (s.rd:Int),.slice (some ⟨B,0,none⟩) (wsAt T s.rd).length (wsAt T s.rd).length]:=by
  unfold F.disV;rw[if_pos dc,ehw];rw[eL]
 have ds:(⟨s.rd,s.fd,c.w.toNat,s.hv,false⟩:F.Fe).disS [] s.ma=⟨s.rd,s.fd,c.w.toNat,false,false⟩:=by
  unfold F.Fe.disS;rw[if_pos dc]
 have dh:F.disH ⟨s.rd,s.fd,c.w.toNat,s.hv,false⟩ [] s.ma Z.hw=.slice none 0 0:=by
  unfold F.disH;rw[if_pos dc]
 rw[ds,dh]at k1
 have hBf:B∉[Z.z.fb]:=by
  intro hx;rw[List.mem_singleton]at hx
  rw[hx]at hrow
  have:=hm.box;rw[hrow]at this
  simp only[Option.some.injEq,Obj.cells.injEq]at this;exact absurd this.2.1 (by decide)
 have hrow':=k2.keep hrow hBf;rw[<-ews]at hrow hrow'
 have ownB:(feP w0 c Z.z.fb Z.y Z.v Z.hw s.rd s.fd s.hv).O w B:=Or.inr (Or.inr (by rw[ehw];rfl));have hBB:Z.y.B0<=B:=hfe.hB B (by rw[ehw];rfl);have feO:∀b,zey w0 Z.y Z.v (.slice none 0 0) b->zey w0 Z.y Z.v Z.hw b/\b≠B:=fun b hb=>by
  rcases hb with e|e|e
  .exact⟨Or.inl e,by omega⟩
  .refine⟨Or.inr (Or.inl e),fun x=> ?_⟩;subst x;obtain⟨_,cur,k3⟩:=zld hm.src.row e;rw[hrow]at k3
   simp only[Option.some.injEq,Obj.cells.injEq]at k3;exact absurd k3.2.1 (by decide)
  cases e
 have reO:∀b,(∃n:Int,1<=n/\n<=((Z.nr+1:Nat):Int)/\b=kbU Z.kb s.rd B n)->b=B\/(∃n:Int,1<=n/\n<=(Z.nr:Int)/\b=Z.kb n):=by
  rintro b⟨n,a1,a2,rfl⟩;by_cases e:n=(s.rd:Int)
  .rw[e,zfn];exact Or.inl rfl
  rw[zgc _ _ e];exact Or.inr ⟨n,a1,by omega,rfl⟩
 have fe0:∀b,zey w0 Z.y Z.v Z.hw b->(mP w0 c T Z s .fe).O w b:=fun b hb=>hb;have re0:∀b,(∃n:Int,1<=n/\n<=(Z.nr:Int)/\b=Z.kb n)->(mP w0 c T Z s .re).O w b:=fun b hb=>hb;have hst:=h.m.step (P':=mP w0 c T {Z with hw:=.slice none 0 0,kb:=kbU Z.kb s.rd B,nr:=Z.nr+1} {s with hv:=false}) (fun i=>i=.fe\/i=.re) k2 (fun b hb _=>⟨.fe,Or.inl rfl,?_⟩) (fun i hi=> ?_) (fun i hi=> ?_) (fun i hi=> ?_) (fun i hi b hb=> ?_) (fun i j b hi hj hbi hbj=> ?_)
 .have hoff:∀b,w.heap.size<=b->MaM.off w0 w' c T {Z with hw:=.slice none 0 0,kb:=kbU Z.kb s.rd B,nr:=Z.nr+1} {s with hv:=false} b:=fun b hb i hi=>by
   have hsub:∃j,(mP w0 c T Z s j).O w b:=by
    by_cases hA:i=.fe\/i=.re
    .rcases hA with rfl|rfl
     .exact⟨.fe,(feO b hi).1⟩
     rcases reO b hi with e|e
     .exact⟨.fe,by rw[e];exact ownB⟩
     exact⟨.re,e⟩
    have hP:mP w0 c T {Z with hw:=.slice none 0 0,kb:=kbU Z.kb s.rd B,nr:=Z.nr+1} {s with hv:=false} i=mP w0 c T Z s i:=by
     cases i with
     |fe=>exact absurd (Or.inl rfl) hA
     |re=>exact absurd (Or.inr rfl) hA
     |wa=>simp only[mP,waP];rw[zzc T Z.kb s.wt B hw]
     |li=>simp only[mP,liP];rw[zzd T Z.kb B hl]
     |_=>rfl
    rw[hP]at hi
    refine⟨i,((h.m.ok i).keep [Z.z.fb] w w' (h.m.m i) h.m.fr k2 (fun x hx hxl=> ?_)).2 b hi⟩;rw[List.mem_singleton.1 hx];refine⟨hm.fn,fun hO=>hA (Or.inl ?_)⟩;exact h.m.ap i .fe _ hO (fe0 _ (Or.inl ⟨hm.fn,hfe.f0⟩))
   obtain⟨j,hj⟩:=hsub;have:=((h.m.ok j).lt w b (h.m.m j) hj).2;omega
  exact⟨B,by rw[ehw,eL],by rw[dv,dc];rfl,hrow',⟨⟨hst.1,h.log,Nat.le_succ_of_le h.rows,h.few⟩,hst.2,rfl,rfl⟩,k2,hoff⟩
 .rw[List.mem_singleton.1 hb];exact fe0 _ (Or.inl ⟨hm.fn,hfe.f0⟩)
 .cases i with
  |fe=>exact absurd (Or.inl rfl) hi
  |re=>exact absurd (Or.inr rfl) hi
  |wa=>simp only[mP,waP];rw[zzc T Z.kb s.wt B hw]
  |li=>simp only[mP,liP];rw[zzd T Z.kb B hl]
  |_=>rfl
 .exact zakn _ _ _ _ _ i
 .rcases hi with rfl|rfl
  .exact⟨k1,hfe.f0,hfe.g0,hfe.l0,hfe.m0,hfe.t0,Nat.le_trans hfe.b0 k2.size,fun k hk=>(by cases hk),fun k hk=>(by cases hk)⟩
  intro n a1 a2;by_cases e:n=(s.rd:Int)
  .subst e;show w'.heap[kbU Z.kb s.rd B s.rd]? = _/\w0.heap.size<=kbU Z.kb s.rd B s.rd;rw[zfn];exact⟨hrow',hB0⟩
  show w'.heap[kbU Z.kb s.rd B n]? = _/\w0.heap.size<=kbU Z.kb s.rd B n;rw[zgc _ _ e];have a3:n<=(Z.nr:Int):=by have:n<=((Z.nr+1:Nat):Int):=a2;omega
  obtain⟨b1,b2⟩:=h.re n a1 a3;refine⟨k2.keep b1 (fun hx=> ?_),b2⟩;rw[List.mem_singleton]at hx
  have hbox:=hm.box;rw[<-hx,b1]at hbox
  simp only[Option.some.injEq,Obj.cells.injEq]at hbox;exact absurd hbox.2.1 (by decide)
 .rcases hi with rfl|rfl
  .exact Or.inl ⟨.fe,Or.inl rfl,(feO b hb).1⟩
  rcases reO b hb with e|e
  .exact Or.inl ⟨.fe,Or.inl rfl,by rw[e];exact ownB⟩
  exact Or.inl ⟨.re,Or.inr rfl,e⟩
 have key:∀b,(mP w0 c T {Z with hw:=.slice none 0 0,kb:=kbU Z.kb s.rd B,nr:=Z.nr+1} {s with hv:=false} .fe).O w' b->(mP w0 c T {Z with hw:=.slice none 0 0,kb:=kbU Z.kb s.rd B,nr:=Z.nr+1} {s with hv:=false} .re).O w' b->False:=fun b x1 x2=>by
  obtain⟨x3,x4⟩:=feO b x1;rcases reO b x2 with e|e
  .exact x4 e
  have:=h.m.ap .fe .re b (fe0 b x3) (re0 b e);cases this
 rcases hi with rfl|rfl<;>rcases hj with rfl|rfl
 .rfl
 .exact (key b hbi hbj).elim
 .exact (key b hbj hbi).elim
 rfl
end
end Go.Proofs.YtojjdnjfaelnfaaGreatDoor
