/- Contracts and lemmas. -/
import Derived.Test.YtojjdnjfaelnfaaGreatDoorGp32
set_option maxHeartbeats 2000000
set_option maxRecDepth 100000
set_option linter.unusedSimpArgs false
set_option linter.unusedVariables false
namespace Go.Proofs.YtojjdnjfaelnfaaGreatDoor
open Go.ChangeShapes Go.WideShapes Go.ChangeAt Go.RowKit Go.Lib Go.Maps Go.Proofs.Tryz
section
variable{w0 w w':World}{c:Cf}{T:List Tx}{Z:Lay}{s:Ms}
theorem zait(h:MaM w0 w c T Z s):Calls prog 264 #[.pointer (some ⟨Z.z.kd,0,none⟩)] w fun e w'=>e=.returned (.int .u8 (canD c s:Int))/\Fr [] w w':=by
 have c0:∀y:Wq w,y.W.cell? ⟨Z.z.kd,0,none⟩=some (.pointer (some ⟨Z.z.mb,0,none⟩)):=fun y=>(h.quiet y.h).kdc.1;have c5:∀y:Wq w,y.W.cell? ⟨Z.z.mb,5,none⟩=some (.pointer (some ⟨Z.z.fb,0,none⟩)):=fun y=>(h.quiet y.h).mc rfl;have c12:∀y:Wq w,y.W.cell? ⟨Z.z.mb,12,none⟩=some (.pointer (some ⟨Z.z.gb,0,none⟩)):=fun y=>(h.quiet y.h).mc rfl;have HM:∀y:Wq w,Calls prog 95 #[.pointer (some ⟨Z.z.gb,0,none⟩)] y.W fun e w'=>e=.returned (.int .i64 s.ma)/\Fr [] y.W w':=fun y=>zjk (h.quiet y.h).ga;have HC:∀y:Wq w,Calls prog 268 #[.pointer (some ⟨Z.z.fb,0,none⟩),.int .i64 s.ma] y.W fun e w'=>e=.returned (.int .u8 (canD c s:Int))/\Fr [] y.W w':=fun y=>by
  have:=F.fCan_any (h.quiet y.h).fe.m s.ma;rw[zail h.may]at this
  exact this
 clear h;go_enter func264,ntmps264;go_wp2_with fail
 refine zfk (w1:=w) (by kernel_rfl) (by kernel_rfl) (Fr.refl _ _) ?_
 repeat (go_big_quiet_step (first
  |(go_at_call 95;with_reducible refine (HM _).mono ?_;exact fun e w3 hh=>⟨hh.1,⟨_,Fr.then (Wq.h _) hh.2⟩,rfl⟩)
  |(go_at_call 268;with_reducible refine (HC _).mono ?_;exact fun e w3 hh=>⟨hh.1,⟨_,Fr.then (Wq.h _) hh.2⟩,rfl⟩)))
 refine wpQuiet_nil ?_;rintro _⟨z,rfl⟩;go_wp2;go_ret;exact⟨rfl,z.h⟩
end
section
variable{w0 w w':World}{c:Cf}{T:List Tx}{Z:Lay}{s:Ms}
theorem zaiu(h:MaM w0 w c T Z s){j:Nat}(hj:j<c.s.toNat):Calls prog 321 #[.pointer (some ⟨Z.z.kk j,0,none⟩)] w fun e w'=>e=.returned (.int .u8 (canK s j:Int))/\Fr [] w w':=by
 obtain⟨_,_,_,c3⟩:=h.kkc hj;have HL:Hid (Calls ..):=O.os_len (h.ow hj) (s.qs j).length (by simp);by_cases h0:s.qs j=[]
 .have hc:canK s j=0:=by simp[canK,h0]
  rw[hc];rw[h0]at HL
  simp only[List.length_nil]at HL;clear h h0 hc;go_enter func321,ntmps321;go_wp2_with fail
  refine Calls.mono HL.out ?_;rintro e w1⟨rfl,rfl⟩;go_wp2;go_ret;exact⟨rfl,Fr.refl _ _⟩
 have hc:canK s j=7:=by simp[canK,h0]
 have hl:0<(s.qs j).length:=List.length_pos_iff.2 h0;obtain⟨K,hK⟩:∃K,(s.qs j).length=K:=⟨_,rfl⟩;rw[hK]at hl HL
 rw[hc];clear h h0 hc hK;go_enter func321,ntmps321;go_wp2_with fail
 refine Calls.mono HL.out ?_;rintro e w1⟨rfl,rfl⟩;go_wp2;go_ret;exact⟨rfl,Fr.refl _ _⟩
theorem zaiv(h:MaM w0 w c T Z s):Calls prog 373 #[.pointer (some ⟨Z.z.kg,0,none⟩)] w fun e w'=>e=.returned (.int .u8 (canG s:Int))/\Fr [] w w':=by
 obtain⟨c0,_⟩:=h.kgc;have c9:w.cell? ⟨Z.z.mb,9,none⟩=some (.pointer (some ⟨Z.z.pr,0,none⟩)):=h.mc rfl;obtain⟨N,F,K,ps,hR⟩:=h.pa;have HL:Hid (Calls ..):=GI.glen_any w hR;have hK:=hR.pl.cnt;by_cases h0:s.pass=[]
 .have hc:canG s=0:=by simp[canG,h0]
  rw[hc];obtain rfl:K=0:=by rw[<-hK,h0];rfl
  clear h h0 hc hR hK;go_enter func373,ntmps373;go_wp2_with fail
  refine Calls.mono HL.out ?_;rintro e w1⟨rfl,rfl⟩;go_wp2;go_ret;exact⟨rfl,Fr.refl _ _⟩
 have hc:canG s=8:=by simp[canG,h0]
 have hl:0<K:=by rw[<-hK];exact List.length_pos_iff.2 h0
 rw[hc];clear h h0 hc hR hK;go_enter func373,ntmps373;go_wp2_with fail
 refine Calls.mono HL.out ?_;rintro e w1⟨rfl,rfl⟩;go_wp2;go_ret;exact⟨rfl,Fr.refl _ _⟩
end
section
variable{w0 w w':World}{c:Cf}{T:List Tx}{Z:Lay}{s:Ms}
structure LnOk(c:Cf)(h:Hl):Prop where
 n:1<=h.n/\h.n<=65536
 x:∀y∈h.l,okW y/\(0<=(Cf.shard c y.key).1/\(Cf.shard c y.key).1<c.s)
theorem LnOk.sh{hl:Hl}(h:LnOk c hl){y:Wt}(hy:y∈hl.l):((shW c y:Nat):Int)=(Cf.shard c y.key).1/\shW c y<c.s.toNat:=by
 have:=(h.x y hy).2;unfold shW;omega
theorem zabw(h:MaM w0 w c T Z s){i:Nat}(hi:i<c.l.toNat)(hn:s.ln i=none){K:Nat}(hK:s.line.length=K)(h1:K=0):Calls prog 287 #[.pointer (some ⟨Z.z.kw i,0,none⟩)] w fun e w'=>e=.returned (.int .u8 0)/\Fr [] w w':=by
 have c2:=(h.kwc hi).2.2;have hla:=h.la hi;rw[hn]at hla
 have HN:Hid (Calls ..):=zcx hla;have HH:Hid (∀W,Fr [] w W->Calls prog 93 #[.pointer (some ⟨Z.z.la i,0,none⟩)] W fun e w'=>e=.returned (.int .i64 0)/\Fr [] W w'):=fun W hf=>zcb (hla.kept W hf);have HR:Hid (∀W,Fr [] w W->Calls prog 293 #[.pointer (some ⟨Z.z.la i,0,none⟩)] W fun e w'=>e=.returned (.bool false)/\Fr [] W w'):=fun W hf=>by
  have:=zdd (hla.kept W hf);rw[show zbb _=false from by rfl]at this
  exact this
 have HC:Hid (∀W,Fr [] w W->W.cell? ⟨Z.z.kw i,0,none⟩=some (.pointer (some ⟨Z.z.mb,0,none⟩))/\W.cell? ⟨Z.z.kw i,2,none⟩=some (.pointer (some ⟨Z.z.la i,0,none⟩))/\W.cell? ⟨Z.z.mb,8,none⟩=some (.pointer (some ⟨Z.z.lr,0,none⟩))/\W.cell? ⟨Z.z.mb,11,none⟩=some (.slice (some ⟨Z.z.osB,0,none⟩) c.s.toNat Z.z.osC)):=fun W hf=>⟨((h.quiet hf).kwc hi).1,((h.quiet hf).kwc hi).2.2,(h.quiet hf).mc rfl,(h.quiet hf).mc rfl⟩;have HL:Hid (∀W,Fr [] w W->Calls prog 291 #[.pointer (some ⟨Z.z.lr,0,none⟩)] W fun e w'=>e=.returned (.int .i64 (K:Int))/\W=w'):=fun W hf=>by
  obtain⟨N,F,K',ps,hR⟩:=(h.quiet hf).li;have:=GT.glen_any W hR;rw[show (K':Nat)=K by rw[<-hR.pl.cnt,List.length_map,hK]]at this
  exact this
 simp only[zfw,zfx,zfy,Rq.v,Rq.zero,Wt.zero,noS]at HN;subst h1;have HS:Hid (∀(W:World)(o:Obj),Fr [] w W->Fr [] w (W.alloc o)):=fun W o hf=>hf.then (Fr.alloc [] W o);clear h hla hn hK;go_enter func287,ntmps287;go_wp2_with fail
 refine Calls.mono HN.out ?_;rintro e w1⟨rfl,hF1⟩;obtain⟨w2,HW2⟩:∃w2,Hid (w1.alloc (.cells #[.int .u8 0,.int .i64 0,.int .i64 0,.string ⟨#[]⟩,.string ⟨#[]⟩,.bool false,.string ⟨#[]⟩,.string ⟨#[]⟩,.slice none 0 0] 338)=w2):=⟨_,rfl⟩;have hF2:Fr [] w w2:=by rw[<-HW2.out];exact HS.out _ _ hF1
 go_upto_region 2 with fail
 rw[HW2.out];clear HW2 hF1 HN c2;obtain⟨d0,d2,d8,d11⟩:=HC.out _ hF2;go_wp2_with fail
 refine Calls.mono (HH.out _ hF2) ?_;rintro e w3⟨rfl,hF3⟩;have HF3:Hid (Fr [] w w3):=hF2.then hF3;clear hF2 hF3 HH d0 d2 d8 d11;obtain⟨d0,d2,d8,d11⟩:=HC.out _ HF3.out;go_wp2_with fail
 refine Calls.mono (HL.out _ HF3.out) ?_;rintro e w4⟨rfl,rfl⟩;clear HL;go_wp2_with fail
 refine Calls.mono (HR.out _ HF3.out) ?_;rintro e w5⟨rfl,hF5⟩;have HF5:Hid (Fr [] w w5):=HF3.out.then hF5;clear hF5;go_wp2;go_ret;exact⟨rfl,HF5.out⟩
theorem zabx(h:MaM w0 w c T Z s){i:Nat}(hi:i<c.l.toNat)(hn:s.ln i=none){K:Nat}(hK:s.line.length=K)(h1:0<K):Calls prog 287 #[.pointer (some ⟨Z.z.kw i,0,none⟩)] w fun e w'=>e=.returned (.int .u8 4)/\Fr [] w w':=by
 have c2:=(h.kwc hi).2.2;have hla:=h.la hi;rw[hn]at hla
 have HN:Hid (Calls ..):=zcx hla;have HH:Hid (∀W,Fr [] w W->Calls prog 93 #[.pointer (some ⟨Z.z.la i,0,none⟩)] W fun e w'=>e=.returned (.int .i64 0)/\Fr [] W w'):=fun W hf=>zcb (hla.kept W hf);have HR:Hid (∀W,Fr [] w W->Calls prog 293 #[.pointer (some ⟨Z.z.la i,0,none⟩)] W fun e w'=>e=.returned (.bool false)/\Fr [] W w'):=fun W hf=>by
  have:=zdd (hla.kept W hf);rw[show zbb _=false from by rfl]at this
  exact this
 have HC:Hid (∀W,Fr [] w W->W.cell? ⟨Z.z.kw i,0,none⟩=some (.pointer (some ⟨Z.z.mb,0,none⟩))/\W.cell? ⟨Z.z.kw i,2,none⟩=some (.pointer (some ⟨Z.z.la i,0,none⟩))/\W.cell? ⟨Z.z.mb,8,none⟩=some (.pointer (some ⟨Z.z.lr,0,none⟩))/\W.cell? ⟨Z.z.mb,11,none⟩=some (.slice (some ⟨Z.z.osB,0,none⟩) c.s.toNat Z.z.osC)):=fun W hf=>⟨((h.quiet hf).kwc hi).1,((h.quiet hf).kwc hi).2.2,(h.quiet hf).mc rfl,(h.quiet hf).mc rfl⟩;have HL:Hid (∀W,Fr [] w W->Calls prog 291 #[.pointer (some ⟨Z.z.lr,0,none⟩)] W fun e w'=>e=.returned (.int .i64 (K:Int))/\W=w'):=fun W hf=>by
  obtain⟨N,F,K',ps,hR⟩:=(h.quiet hf).li;have:=GT.glen_any W hR;rw[show (K':Nat)=K by rw[<-hR.pl.cnt,List.length_map,hK]]at this
  exact this
 simp only[zfw,zfx,zfy,Rq.v,Rq.zero,Wt.zero,noS]at HN;have HS:Hid (∀(W:World)(o:Obj),Fr [] w W->Fr [] w (W.alloc o)):=fun W o hf=>hf.then (Fr.alloc [] W o);clear h hla hn hK;go_enter func287,ntmps287;go_wp2_with fail
 refine Calls.mono HN.out ?_;rintro e w1⟨rfl,hF1⟩;obtain⟨w2,HW2⟩:∃w2,Hid (w1.alloc (.cells #[.int .u8 0,.int .i64 0,.int .i64 0,.string ⟨#[]⟩,.string ⟨#[]⟩,.bool false,.string ⟨#[]⟩,.string ⟨#[]⟩,.slice none 0 0] 338)=w2):=⟨_,rfl⟩;have hF2:Fr [] w w2:=by rw[<-HW2.out];exact HS.out _ _ hF1
 go_upto_region 2 with fail
 rw[HW2.out];clear HW2 hF1 HN c2;obtain⟨d0,d2,d8,d11⟩:=HC.out _ hF2;go_wp2_with fail
 refine Calls.mono (HH.out _ hF2) ?_;rintro e w3⟨rfl,hF3⟩;have HF3:Hid (Fr [] w w3):=hF2.then hF3;clear hF2 hF3 HH d0 d2 d8 d11;obtain⟨d0,d2,d8,d11⟩:=HC.out _ HF3.out;go_wp2_with fail
 refine Calls.mono (HL.out _ HF3.out) ?_;rintro e w4⟨rfl,rfl⟩;clear HL;go_wp2;go_ret;exact⟨rfl,HF3.out⟩
theorem zaby(h:MaM w0 w c T Z s){i:Nat}(hi:i<c.l.toNat){n:Int}{y:Wt}{r:List Wt}{ou:Nat}(hn:s.ln i=some ⟨n,y::r,ou⟩)(hn1:1<=n/\n<=65536)(hne:¬n=0)(hsh:((shW c y:Nat):Int)=(Cf.shard c y.key).1/\shW c y<c.s.toNat){R:Nat}(hq:c.q.toNat-(s.qs (shW c y)).length=R)(hR:0<R):Calls prog 287 #[.pointer (some ⟨Z.z.kw i,0,none⟩)] w fun e w'=>e=.returned (.int .u8 5)/\Fr [] w w':=by
 have c2:=(h.kwc hi).2.2;have hla:=h.la hi;rw[hn]at hla
 have HN:Hid (Calls ..):=zcx hla;obtain⟨I1,hI1⟩:∃I1:Int,((i+1:Nat):Int)=I1:=⟨_,rfl⟩;simp only[zfw,zfx,zfy,Rq.v,Rq.zero,Wt.zero,noS]at HN;rw[hI1]at HN
 clear hI1;have HH:Hid (∀W,Fr [] w W->Calls prog 93 #[.pointer (some ⟨Z.z.la i,0,none⟩)] W fun e w'=>e=.returned (.int .i64 n)/\Fr [] W w'):=fun W hf=>zcb (hla.kept W hf);have HR:Hid (∀W,Fr [] w W->Calls prog 293 #[.pointer (some ⟨Z.z.la i,0,none⟩)] W fun e w'=>e=.returned (.bool false)/\Fr [] W w'):=fun W hf=>by
  have:=zdd (hla.kept W hf);rw[show zbb _=false from by simp[zbb]]at this
  exact this
 have HC:Hid (∀W,Fr [] w W->W.cell? ⟨Z.z.kw i,0,none⟩=some (.pointer (some ⟨Z.z.mb,0,none⟩))/\W.cell? ⟨Z.z.kw i,2,none⟩=some (.pointer (some ⟨Z.z.la i,0,none⟩))/\W.cell? ⟨Z.z.mb,8,none⟩=some (.pointer (some ⟨Z.z.lr,0,none⟩))/\W.cell? ⟨Z.z.mb,11,none⟩=some (.slice (some ⟨Z.z.osB,0,none⟩) c.s.toNat Z.z.osC)):=fun W hf=>⟨((h.quiet hf).kwc hi).1,((h.quiet hf).kwc hi).2.2,(h.quiet hf).mc rfl,(h.quiet hf).mc rfl⟩;obtain⟨J,hJ⟩:∃J,shW c y=J:=⟨_,rfl⟩;rw[hJ]at hsh hq
 have HO:Hid (∀W,Fr [] w W->Calls prog 292 #[.pointer (some ⟨Z.z.ob J,0,none⟩)] W fun e w'=>e=.returned (.int .i64 (R:Int))/\Fr [] W w'):=fun W hf=>O.os_room ((h.quiet hf).ow hsh.2) R (by rw[List.length_map];exact hq);have HOc:Hid (∀W,Fr [] w W->W.cell? ⟨Z.z.osB,J,none⟩=some (.pointer (some ⟨Z.z.ob J,0,none⟩))):=fun W hf=>(h.quiet hf).osc hsh.2;obtain⟨SN,hSN⟩:∃SN,c.s.toNat=SN:=⟨_,rfl⟩;rw[hSN]at HC hsh
 have hJ2:J<SN:=hsh.2;have hsJ:(Cf.shard ⟨c.l,c.s,c.w,c.q⟩ y.key).1=(J:Int):=hsh.1.symm;clear hSN hJ hsh hq;rw[hsJ]at HN
 have HS:Hid (∀(W:World)(o:Obj),Fr [] w W->Fr [] w (W.alloc o)):=fun W o hf=>hf.then (Fr.alloc [] W o);clear h hla hn;go_enter func287,ntmps287;go_wp2_with fail
 refine Calls.mono HN.out ?_;rintro e w1⟨rfl,hF1⟩;obtain⟨w2,HW2⟩:∃w2,Hid (w1.alloc (.cells #[.int .u8 1,.int .i64 I1,.int .i64 n,.string y.key,.string y.val,.bool y.drop,.string ⟨#[]⟩,.string ⟨#[]⟩,.slice none 0 0] 338)=w2):=⟨_,rfl⟩;have hF2:Fr [] w w2:=by rw[<-HW2.out];exact HS.out _ _ hF1
 go_upto_region 2 with fail
 rw[HW2.out];clear HW2 hF1 HN c2;obtain⟨d0,d2,d8,d11⟩:=HC.out _ hF2;go_wp2_with fail
 refine Calls.mono (HH.out _ hF2) ?_;rintro e w3⟨rfl,hF3⟩;have HF3:Hid (Fr [] w w3):=hF2.then hF3;clear hF2 hF3 HH d0 d2 d8 d11;obtain⟨d0,d2,d8,d11⟩:=HC.out _ HF3.out;have d12:=HOc.out _ HF3.out;go_wp2_with fail
 refine Calls.mono (HO.out _ HF3.out) ?_;rintro e w4⟨rfl,hF4⟩;have HF4:Hid (Fr [] w w4):=HF3.out.then hF4;clear d0 d2 d8 d11 d12 hF4 HO HF3;obtain⟨d0,d2,d8,d11⟩:=HC.out _ HF4.out;go_wp2;go_ret;exact⟨rfl,HF4.out⟩
theorem zabz(h:MaM w0 w c T Z s){i:Nat}(hi:i<c.l.toNat){n:Int}{y:Wt}{r:List Wt}{ou:Nat}(hn:s.ln i=some ⟨n,y::r,ou⟩)(hn1:1<=n/\n<=65536)(hne:¬n=0)(hsh:((shW c y:Nat):Int)=(Cf.shard c y.key).1/\shW c y<c.s.toNat){R:Nat}(hq:c.q.toNat-(s.qs (shW c y)).length=R)(hR:R=0):Calls prog 287 #[.pointer (some ⟨Z.z.kw i,0,none⟩)] w fun e w'=>e=.returned (.int .u8 0)/\Fr [] w w':=by
 have c2:=(h.kwc hi).2.2;have hla:=h.la hi;rw[hn]at hla
 have HN:Hid (Calls ..):=zcx hla;obtain⟨I1,hI1⟩:∃I1:Int,((i+1:Nat):Int)=I1:=⟨_,rfl⟩;simp only[zfw,zfx,zfy,Rq.v,Rq.zero,Wt.zero,noS]at HN;rw[hI1]at HN
 clear hI1;have HH:Hid (∀W,Fr [] w W->Calls prog 93 #[.pointer (some ⟨Z.z.la i,0,none⟩)] W fun e w'=>e=.returned (.int .i64 n)/\Fr [] W w'):=fun W hf=>zcb (hla.kept W hf);have HR:Hid (∀W,Fr [] w W->Calls prog 293 #[.pointer (some ⟨Z.z.la i,0,none⟩)] W fun e w'=>e=.returned (.bool false)/\Fr [] W w'):=fun W hf=>by
  have:=zdd (hla.kept W hf);rw[show zbb _=false from by simp[zbb]]at this
  exact this
 have HC:Hid (∀W,Fr [] w W->W.cell? ⟨Z.z.kw i,0,none⟩=some (.pointer (some ⟨Z.z.mb,0,none⟩))/\W.cell? ⟨Z.z.kw i,2,none⟩=some (.pointer (some ⟨Z.z.la i,0,none⟩))/\W.cell? ⟨Z.z.mb,8,none⟩=some (.pointer (some ⟨Z.z.lr,0,none⟩))/\W.cell? ⟨Z.z.mb,11,none⟩=some (.slice (some ⟨Z.z.osB,0,none⟩) c.s.toNat Z.z.osC)):=fun W hf=>⟨((h.quiet hf).kwc hi).1,((h.quiet hf).kwc hi).2.2,(h.quiet hf).mc rfl,(h.quiet hf).mc rfl⟩;obtain⟨J,hJ⟩:∃J,shW c y=J:=⟨_,rfl⟩;rw[hJ]at hsh hq
 have HO:Hid (∀W,Fr [] w W->Calls prog 292 #[.pointer (some ⟨Z.z.ob J,0,none⟩)] W fun e w'=>e=.returned (.int .i64 (R:Int))/\Fr [] W w'):=fun W hf=>O.os_room ((h.quiet hf).ow hsh.2) R (by rw[List.length_map];exact hq);have HOc:Hid (∀W,Fr [] w W->W.cell? ⟨Z.z.osB,J,none⟩=some (.pointer (some ⟨Z.z.ob J,0,none⟩))):=fun W hf=>(h.quiet hf).osc hsh.2;obtain⟨SN,hSN⟩:∃SN,c.s.toNat=SN:=⟨_,rfl⟩;rw[hSN]at HC hsh
 have hJ2:J<SN:=hsh.2;have hsJ:(Cf.shard ⟨c.l,c.s,c.w,c.q⟩ y.key).1=(J:Int):=hsh.1.symm;clear hSN hJ hsh hq;rw[hsJ]at HN
 subst hR;have HS:Hid (∀(W:World)(o:Obj),Fr [] w W->Fr [] w (W.alloc o)):=fun W o hf=>hf.then (Fr.alloc [] W o);clear h hla hn;go_enter func287,ntmps287;go_wp2_with fail
 refine Calls.mono HN.out ?_;rintro e w1⟨rfl,hF1⟩;obtain⟨w2,HW2⟩:∃w2,Hid (w1.alloc (.cells #[.int .u8 1,.int .i64 I1,.int .i64 n,.string y.key,.string y.val,.bool y.drop,.string ⟨#[]⟩,.string ⟨#[]⟩,.slice none 0 0] 338)=w2):=⟨_,rfl⟩;have hF2:Fr [] w w2:=by rw[<-HW2.out];exact HS.out _ _ hF1
 go_upto_region 2 with fail
 rw[HW2.out];clear HW2 hF1 HN c2;obtain⟨d0,d2,d8,d11⟩:=HC.out _ hF2;go_wp2_with fail
 refine Calls.mono (HH.out _ hF2) ?_;rintro e w3⟨rfl,hF3⟩;have HF3:Hid (Fr [] w w3):=hF2.then hF3;clear hF2 hF3 HH d0 d2 d8 d11;obtain⟨d0,d2,d8,d11⟩:=HC.out _ HF3.out;have d12:=HOc.out _ HF3.out;go_wp2_with fail
 refine Calls.mono (HO.out _ HF3.out) ?_;rintro e w4⟨rfl,hF4⟩;have HF4:Hid (Fr [] w w4):=HF3.out.then hF4;clear d0 d2 d8 d11 d12 hF4 HO HF3;obtain⟨d0,d2,d8,d11⟩:=HC.out _ HF4.out;go_wp2_with fail
 refine Calls.mono (HR.out _ HF4.out) ?_;rintro e w5⟨rfl,hF5⟩;have HF5:Hid (Fr [] w w5):=HF4.out.then hF5;clear hF5;go_wp2;go_ret;exact⟨rfl,HF5.out⟩
theorem zaca(h:MaM w0 w c T Z s){i:Nat}(hi:i<c.l.toNat){n:Int}{ou:Nat}(hn:s.ln i=some ⟨n,[],ou⟩)(hn1:1<=n/\n<=65536)(hne:¬n=0)(h0:ou=0):Calls prog 287 #[.pointer (some ⟨Z.z.kw i,0,none⟩)] w fun e w'=>e=.returned (.int .u8 6)/\Fr [] w w':=by
 have c2:=(h.kwc hi).2.2;have hla:=h.la hi;rw[hn]at hla
 have HN:Hid (Calls ..):=zcx hla;have HH:Hid (∀W,Fr [] w W->Calls prog 93 #[.pointer (some ⟨Z.z.la i,0,none⟩)] W fun e w'=>e=.returned (.int .i64 n)/\Fr [] W w'):=fun W hf=>zcb (hla.kept W hf);have HR:Hid (∀W,Fr [] w W->Calls prog 293 #[.pointer (some ⟨Z.z.la i,0,none⟩)] W fun e w'=>e=.returned (.bool true)/\Fr [] W w'):=fun W hf=>by
  have:=zdd (hla.kept W hf);rw[show zbb _=true from by simp[zbb,h0]]at this
  exact this
 have HC:Hid (∀W,Fr [] w W->W.cell? ⟨Z.z.kw i,0,none⟩=some (.pointer (some ⟨Z.z.mb,0,none⟩))/\W.cell? ⟨Z.z.kw i,2,none⟩=some (.pointer (some ⟨Z.z.la i,0,none⟩))/\W.cell? ⟨Z.z.mb,8,none⟩=some (.pointer (some ⟨Z.z.lr,0,none⟩))/\W.cell? ⟨Z.z.mb,11,none⟩=some (.slice (some ⟨Z.z.osB,0,none⟩) c.s.toNat Z.z.osC)):=fun W hf=>⟨((h.quiet hf).kwc hi).1,((h.quiet hf).kwc hi).2.2,(h.quiet hf).mc rfl,(h.quiet hf).mc rfl⟩;simp only[zfw,zfx,zfy,Rq.v,Rq.zero,Wt.zero,noS]at HN;have HS:Hid (∀(W:World)(o:Obj),Fr [] w W->Fr [] w (W.alloc o)):=fun W o hf=>hf.then (Fr.alloc [] W o);clear h hla hn;go_enter func287,ntmps287;go_wp2_with fail
 refine Calls.mono HN.out ?_;rintro e w1⟨rfl,hF1⟩;obtain⟨w2,HW2⟩:∃w2,Hid (w1.alloc (.cells #[.int .u8 0,.int .i64 0,.int .i64 0,.string ⟨#[]⟩,.string ⟨#[]⟩,.bool false,.string ⟨#[]⟩,.string ⟨#[]⟩,.slice none 0 0] 338)=w2):=⟨_,rfl⟩;have hF2:Fr [] w w2:=by rw[<-HW2.out];exact HS.out _ _ hF1
 go_upto_region 2 with fail
 rw[HW2.out];clear HW2 hF1 HN c2;obtain⟨d0,d2,d8,d11⟩:=HC.out _ hF2;go_wp2_with fail
 refine Calls.mono (HH.out _ hF2) ?_;rintro e w3⟨rfl,hF3⟩;have HF3:Hid (Fr [] w w3):=hF2.then hF3;clear hF2 hF3 HH d0 d2 d8 d11;obtain⟨d0,d2,d8,d11⟩:=HC.out _ HF3.out;go_wp2_with fail
 refine Calls.mono (HR.out _ HF3.out) ?_;rintro e w5⟨rfl,hF5⟩;have HF5:Hid (Fr [] w w5):=HF3.out.then hF5;clear hF5;go_wp2;go_ret;exact⟨rfl,HF5.out⟩
theorem zacb(h:MaM w0 w c T Z s){i:Nat}(hi:i<c.l.toNat){n:Int}{ou:Nat}(hn:s.ln i=some ⟨n,[],ou⟩)(hn1:1<=n/\n<=65536)(hne:¬n=0)(h0:¬ou=0):Calls prog 287 #[.pointer (some ⟨Z.z.kw i,0,none⟩)] w fun e w'=>e=.returned (.int .u8 0)/\Fr [] w w':=by
 have c2:=(h.kwc hi).2.2;have hla:=h.la hi;rw[hn]at hla
 have HN:Hid (Calls ..):=zcx hla;have HH:Hid (∀W,Fr [] w W->Calls prog 93 #[.pointer (some ⟨Z.z.la i,0,none⟩)] W fun e w'=>e=.returned (.int .i64 n)/\Fr [] W w'):=fun W hf=>zcb (hla.kept W hf);have HR:Hid (∀W,Fr [] w W->Calls prog 293 #[.pointer (some ⟨Z.z.la i,0,none⟩)] W fun e w'=>e=.returned (.bool false)/\Fr [] W w'):=fun W hf=>by
  have:=zdd (hla.kept W hf);rw[show zbb _=false from by simp[zbb,h0]]at this
  exact this
 have HC:Hid (∀W,Fr [] w W->W.cell? ⟨Z.z.kw i,0,none⟩=some (.pointer (some ⟨Z.z.mb,0,none⟩))/\W.cell? ⟨Z.z.kw i,2,none⟩=some (.pointer (some ⟨Z.z.la i,0,none⟩))/\W.cell? ⟨Z.z.mb,8,none⟩=some (.pointer (some ⟨Z.z.lr,0,none⟩))/\W.cell? ⟨Z.z.mb,11,none⟩=some (.slice (some ⟨Z.z.osB,0,none⟩) c.s.toNat Z.z.osC)):=fun W hf=>⟨((h.quiet hf).kwc hi).1,((h.quiet hf).kwc hi).2.2,(h.quiet hf).mc rfl,(h.quiet hf).mc rfl⟩;simp only[zfw,zfx,zfy,Rq.v,Rq.zero,Wt.zero,noS]at HN;have HS:Hid (∀(W:World)(o:Obj),Fr [] w W->Fr [] w (W.alloc o)):=fun W o hf=>hf.then (Fr.alloc [] W o);clear h hla hn;go_enter func287,ntmps287;go_wp2_with fail
 refine Calls.mono HN.out ?_;rintro e w1⟨rfl,hF1⟩;obtain⟨w2,HW2⟩:∃w2,Hid (w1.alloc (.cells #[.int .u8 0,.int .i64 0,.int .i64 0,.string ⟨#[]⟩,.string ⟨#[]⟩,.bool false,.string ⟨#[]⟩,.string ⟨#[]⟩,.slice none 0 0] 338)=w2):=⟨_,rfl⟩;have hF2:Fr [] w w2:=by rw[<-HW2.out];exact HS.out _ _ hF1
 go_upto_region 2 with fail
 rw[HW2.out];clear HW2 hF1 HN c2;obtain⟨d0,d2,d8,d11⟩:=HC.out _ hF2;go_wp2_with fail
 refine Calls.mono (HH.out _ hF2) ?_;rintro e w3⟨rfl,hF3⟩;have HF3:Hid (Fr [] w w3):=hF2.then hF3;clear hF2 hF3 HH d0 d2 d8 d11;obtain⟨d0,d2,d8,d11⟩:=HC.out _ HF3.out;go_wp2_with fail
 refine Calls.mono (HR.out _ HF3.out) ?_;rintro e w5⟨rfl,hF5⟩;have HF5:Hid (Fr [] w w5):=HF3.out.then hF5;clear hF5;go_wp2;go_ret;exact⟨rfl,HF5.out⟩
theorem zaiw(h:MaM w0 w c T Z s){i:Nat}(hi:i<c.l.toNat)(hL:∀g,s.ln i=some g->LnOk c g):Calls prog 287 #[.pointer (some ⟨Z.z.kw i,0,none⟩)] w fun e w'=>e=.returned (.int .u8 (canW c s i:Int))/\Fr [] w w':=by
 have hq:=h.may.2.2.2;cases e:s.ln i with
 |none=>
  by_cases h0:s.line=[]
  .rw[show canW c s i=0 by simp[canW,e,h0]];exact zabw h hi e rfl (by rw[h0];rfl)
  .rw[show canW c s i=4 by simp[canW,e,h0]];exact zabx h hi e rfl (List.length_pos_iff.2 h0)
 |some g=>
  obtain⟨n,l,ou⟩:=g;have hk:=hL _ e;have hn1:=hk.n;simp only at hn1;cases l with
  |nil=>
   by_cases h0:ou=0
   .rw[show canW c s i=6 by simp[canW,e,h0]];exact zaca h hi e hn1 (by omega) h0
   .rw[show canW c s i=0 by simp[canW,e,h0]];exact zacb h hi e hn1 (by omega) h0
  |cons y r=>
   have hsh:=hk.sh (y:=y) (by simp);by_cases h0:((s.qs (shW c y)).length:Int)<c.q
   .rw[show canW c s i=5 by simp[canW,e,h0]];exact zaby h hi e hn1 (by omega) hsh rfl (by omega)
   rw[show canW c s i=0 by simp[canW,e,h0]];exact zabz h hi e hn1 (by omega) hsh rfl (by omega)
end
end Go.Proofs.YtojjdnjfaelnfaaGreatDoor
