/- Contracts and lemmas. -/
import Derived.Test.YtojjdnjfaelnfaaGreatDoorGp33
set_option maxHeartbeats 4000000
set_option maxRecDepth 100000
set_option linter.unusedSimpArgs false
set_option linter.unusedVariables false
namespace Go.Proofs.YtojjdnjfaelnfaaGreatDoor
open Go.ChangeShapes Go.WideShapes Go.ChangeAt Go.RowKit Go.Lib Go.Maps Go.Proofs.Tryz
section
variable{w0 w w':World}{c:Cf}{T:List Tx}{Z:Lay}{s:Ms}
def B2x(w:World)(b:Nat)(x y:Value):Prop:=w.heap[b]? = some (.cells #[x,y] 108 (0,0))
theorem zafs(h:MaM w0 w c T Z s)(hnr:Z.nr=s.d)(hW:Wf c T s){i:Nat}(hi:i<c.l.toNat)(hn:s.ln i=none){n:Int}{r:List Int}(hl:s.line=n::r):Calls prog 289 #[.pointer (some ⟨Z.z.kw i,0,none⟩),.int .u8 4] w fun e w'=>StP w0 c T w Z s n 0 0 (zev T s i n r) e w':=by
 obtain⟨w1,HW1⟩:∃w1,Hid (w.alloc (.cells #[.int .i64 0,.int .u8 0,.int .i64 0,.int .i64 0,.int .i64 0,.int .i64 0] 62)=w1):=⟨_,rfl⟩;obtain⟨A,HA⟩:∃A,Hid (w.heap.size=A):=⟨_,rfl⟩;have hF1:Fr [] w w1:=by rw[<-HW1.out];exact Fr.alloc _ _ _
 have hBx:Bx w0 c T w1 Z s A:=by rw[<-HW1.out,<-HA.out];exact Bx.new h
 have h1:=h.quiet hF1;have hno:=(hW.line n (by rw[hl];simp)).1;have hnb:=(hW.op.1 hno).1;have hdT:=hW.dT;have hok:=hW.txn hnb.1 (by omega);obtain⟨K,hK⟩:∃K,(wsAt T n).length=K:=⟨_,rfl⟩;obtain⟨B,hB⟩:∃B,Z.kb n=B:=⟨_,rfl⟩;have c0:w1.cell? ⟨Z.z.kw i,0,none⟩=some (.pointer (some ⟨Z.z.mb,0,none⟩)):=(h1.kwc hi).1;have c8:w1.cell? ⟨Z.z.mb,8,none⟩=some (.pointer (some ⟨Z.z.lr,0,none⟩)):=h1.mc rfl;have HC1:Hid (Calls prog 294 #[.pointer (some ⟨Z.z.lr,0,none⟩)] w1 fun e w'=>e=.returned (.tuple #[.agg #[.int .i64 n,.slice (some ⟨B,0,none⟩) K K],.bool true])/\Dn w0 c T w1 Z s w' Z {s with line:=r}):=by
  have hli:=h1.li;rw[hl,List.map_cons]at hli
  refine (GT.gtake_any (txR T Z.kb n) w1 hli).mono ?_;rintro e w'⟨rfl,k1,k2⟩;refine⟨?_,h1.setLi k2 k1 (GT.Mv.refl _ _) (Nat.le_refl _)⟩;rw[zadq,hB,hK];rfl
 have HC2:Hid (∀w2 W TB,Dn w0 c T w1 Z s w2 Z {s with line:=r}->Fr [] w2 W->w2.heap.size<=TB->B2x W TB (.int .i64 n) (.slice (some ⟨B,0,none⟩) K K)->Calls prog 295 #[.pointer (some ⟨Z.z.la i,0,none⟩),.agg #[.int .i64 n,.slice (some ⟨B,0,none⟩) K K]] W fun e w'=>e=.returned (.int .i64 0)/\w'.cell? ⟨Z.z.kw i,2,none⟩=some (.pointer (some ⟨Z.z.la i,0,none⟩))/\w'.cell? ⟨TB,0,none⟩=some (.int .i64 n)/\w'.cell? ⟨TB,1,none⟩=some (.slice (some ⟨B,0,none⟩) K K)/\∃S',Dn w0 c T w1 Z s w' {Z with S:=upd Z.S i S'} {s with line:=r,ln:=upd s.ln i (some ⟨n,dd (wsAt T n),0⟩)}):=fun w2 W TB hD hf hTB hbx=>by
  have hM:=hD.m.quiet hf;have hoff:=hD.offNew hf hTB;have hre:=(hM.re n hnb.1 (by show n<=(Z.nr:Int);omega)).1;rw[hB]at hre
  have hla:=hM.la hi;have hla':LnM W (Z.z.la i) ((i+1:Nat):Int) c.l c.s c.w c.q none (Z.S i):=by rw[<-hn];exact hla
  refine (zxx n (some ⟨B,0,none⟩) K K (wsAt T n) hla' ⟨WRs.of_ok hok hre,hK.symm,by have:=hok.1;omega,by have:=hok.2.1;omega⟩ hok).mono ?_;rintro e w'⟨S',rfl,k1,k2,k3⟩;have hD3:=hM.setLa hi k3 (fun b hb _=>Or.inl (List.mem_singleton.1 hb)) k1 (fun b hb=>Or.inr (k2 b hb)) (Nat.le_refl _);have hD4:=(hD.trans (hD.m.dn hf)).trans hD3;have hb':=hD3.keep hbx hoff;exact⟨rfl,(hD4.kwc hi).2,by rw[crw hb'];rfl,by rw[crw hb'];rfl,S',hD4⟩
 have HE:Hid (∀W S',Dn w0 c T w1 Z s W {Z with S:=upd Z.S i S'} {s with line:=r,ln:=upd s.ln i (some ⟨n,dd (wsAt T n),0⟩)}->W.heap[A]? = some (.cells #[.int .i64 0,.int .u8 0,.int .i64 0,.int .i64 0,.int .i64 0,.int .i64 0] 62 (0,0))/\∀W',Fr [A] W W'->∃Z',Dn w0 c T w Z s W' Z' (zev T s i n r)/\Z'.nr=(zev T s i n r).d):=fun W S' hD=>by
  refine⟨(hBx.then hD).box,fun W' hf=> ?_⟩;exact⟨_,(hD.steps (k:=s.k+1) (Nat.le_succ _)).fin h hF1 (by rw[HA.out];exact Nat.le_refl _) hBx hf,hnr⟩
 have HKc:Hid (∀W,Dn w0 c T w1 Z s W Z {s with line:=r}->W.cell? ⟨Z.z.kw i,2,none⟩=some (.pointer (some ⟨Z.z.la i,0,none⟩))):=fun W hD=>(hD.kwc hi).2;clear h hnr hW hn hl hF1 hBx h1 hno hnb hdT hok hK hB;go_enter func289,ntmps289;go_upto_region 1 with fail
 rw[HW1.out,HA.out];clear HW1 HA;go_wp2_with fail
 refine Calls.mono HC1.out ?_;rintro e w2⟨rfl,hD2⟩;have HD2:Hid (Dn w0 c T w1 Z s w2 Z {s with line:=r}):=hD2;clear hD2 HC1 c0 c8;obtain⟨w3,HW3⟩:∃w3,Hid (w2.alloc (.cells #[.int .i64 n,.slice (some ⟨B,0,none⟩) K K] 108)=w3):=⟨_,rfl⟩;obtain⟨TB,HTB⟩:∃TB,Hid (w2.heap.size=TB):=⟨_,rfl⟩;have hF3:Fr [] w2 w3:=by rw[<-HW3.out];exact Fr.alloc _ _ _
 have hb3:B2x w3 TB (.int .i64 n) (.slice (some ⟨B,0,none⟩) K K):=by rw[<-HW3.out,<-HTB.out];exact heap_alloc_new _ _
 have c2:w3.cell? ⟨Z.z.kw i,2,none⟩=some (.pointer (some ⟨Z.z.la i,0,none⟩)):=HKc.out _ (HD2.out.trans (HD2.out.m.dn hF3));have t0:w3.cell? ⟨TB,0,none⟩=some (.int .i64 n):=by rw[crw hb3];rfl
 have t1:w3.cell? ⟨TB,1,none⟩=some (.slice (some ⟨B,0,none⟩) K K):=by rw[crw hb3];rfl
 have HF3:Hid (Fr [] w2 w3.drew):=hF3.then (Fr.drew _ _);have HB3:Hid (B2x w3.drew TB (.int .i64 n) (.slice (some ⟨B,0,none⟩) K K)):=(Fr.drew [] w3).keep hb3 (by simp);clear hF3 hb3 HKc;go_upto_region 4 with fail
 rw[HW3.out,HTB.out];have hTB:w2.heap.size<=TB:=by rw[HTB.out];exact Nat.le_refl _
 have HC3:Hid (Calls ..):=HC2.out w2 w3.drew TB HD2.out HF3.out hTB HB3.out;clear HW3 HTB HC2 HD2 HF3 HB3 hTB;go_region_held3 (fun W=>W.cell? ⟨Z.z.kw i,2,none⟩=some (.pointer (some ⟨Z.z.la i,0,none⟩))/\W.cell? ⟨TB,0,none⟩=some (.int .i64 n)/\W.cell? ⟨TB,1,none⟩=some (.slice (some ⟨B,0,none⟩) K K)) (go_keep)
  (first
   |(with_reducible refine Calls.mono HC3.out ?_;rintro e w5⟨rfl,y1,y2,y3,S',hD5⟩))
 have HD5:Hid _:=hD5;clear hD5 HC3;obtain⟨hb,hfin⟩:=HE.out w5 S' HD5.out;have HFin:Hid (∀W',_->_):=hfin;clear hfin HE HD5;go_wp2_with (first
  |(refine zak rfl _ _ rfl A 0 0 n 0 0 0 rfl rfl 0 0 0 0 0 0 hb ?_;intro w6 hw6 hf6;have HF6:Hid _:=HFin.out _ hf6;clear hf6)
  |fail)
 refine bodyPost_ret (zba rfl _ _ _ A _ rfl (zcs hw6.out)) rfl ?_;exact⟨rfl,HF6.out⟩
theorem zaft(h:MaM w0 w c T Z s)(hnr:Z.nr=s.d)(hW:Wf c T s){i:Nat}(hi:i<c.l.toNat){n:Int}(hn:s.ln i=some ⟨n,[],0⟩):Calls prog 289 #[.pointer (some ⟨Z.z.kw i,0,none⟩),.int .u8 6] w fun e w'=>StP w0 c T w Z s n 0 0 (zfu s i n) e w':=by
 obtain⟨w1,HW1⟩:∃w1,Hid (w.alloc (.cells #[.int .i64 0,.int .u8 0,.int .i64 0,.int .i64 0,.int .i64 0,.int .i64 0] 62)=w1):=⟨_,rfl⟩;obtain⟨A,HA⟩:∃A,Hid (w.heap.size=A):=⟨_,rfl⟩;have hF1:Fr [] w w1:=by rw[<-HW1.out];exact Fr.alloc _ _ _
 have hBx:Bx w0 c T w1 Z s A:=by rw[<-HW1.out,<-HA.out];exact Bx.new h
 have h1:=h.quiet hF1;have hno:=(hW.lane i _ hi hn).1;have hnb:=hW.nd4 i _ hi hn;simp only at hno hnb;have hroom:s.pass.length<c.w.toNat:=by
  have:=zkq (l:=s.pass++[n]) (a:=s.ma) (q:=c.w) (by
   rw[List.nodup_append];refine⟨hW.nd2,by simp,fun a ha b hb e=> ?_⟩;rw[List.mem_singleton.1 hb]at e
   exact hnb.2 (e▸ha)) (fun x hx=>by
   rcases List.mem_append.1 hx with hx|hx
   .exact hW.near (hW.pass x hx).1
   rw[List.mem_singleton.1 hx];exact hW.near hno)
  rw[List.length_append]at this
  simp only[List.length_cons,List.length_nil]at this;omega
 have c2:w1.cell? ⟨Z.z.kw i,2,none⟩=some (.pointer (some ⟨Z.z.la i,0,none⟩)):=(h1.kwc hi).2.2;have HC1:Hid (Calls prog 298 #[.pointer (some ⟨Z.z.la i,0,none⟩)] w1 fun e w'=>e=.returned (.tuple #[.int .i64 n,.int .i64 0])/\Dn w0 c T w1 Z s w' {Z with S:=upd Z.S i (Z.S i)} {s with ln:=upd s.ln i none}):=by
  have hla:=h1.la hi;rw[hn]at hla
  refine (zxz hla).mono ?_;rintro e w'⟨rfl,k1,k2⟩;refine⟨by simp[zjp,zjq,zbb,zcu],h1.setLa hi k2 (fun b hb _=>by simpa using hb) (by simpa[zjr,zbb]using k1) (fun b hb=>Or.inl hb) (Nat.le_refl _)⟩
 have HC2:Hid (∀W,Dn w0 c T w1 Z s W {Z with S:=upd Z.S i (Z.S i)} {s with ln:=upd s.ln i none}->W.cell? ⟨Z.z.kw i,0,none⟩=some (.pointer (some ⟨Z.z.mb,0,none⟩))/\W.cell? ⟨Z.z.mb,9,none⟩=some (.pointer (some ⟨Z.z.pr,0,none⟩))/\Calls prog 299 #[.pointer (some ⟨Z.z.pr,0,none⟩),.int .i64 n] W fun e w'=>e=.returned (.bool true)/\w'.heap[A]? = some (.cells #[.int .i64 0,.int .u8 0,.int .i64 0,.int .i64 0,.int .i64 0,.int .i64 0] 62 (0,0))/\∀W',Fr [A] w' W'->∃Z',Dn w0 c T w Z s W' Z' (zfu s i n)/\Z'.nr=(zfu s i n).d):=fun W hD=>by
  refine⟨(hD.kwc hi).1,hD.mc rfl,(GI.gput_any n W hD.m.pa hroom).mono ?_⟩;rintro e w'⟨rfl,p',k1,k2,k3⟩;have hD2:=hD.trans (hD.m.setPa k2 k1 k3 (Nat.le_refl _));exact⟨rfl,(hBx.then hD2).box,fun W' hf=>⟨_,(hD2.steps (k:=s.k+1) (Nat.le_succ _)).fin h hF1 (by rw[HA.out];exact Nat.le_refl _) hBx hf,hnr⟩⟩
 clear h hnr hW hn hF1 hBx h1 hno hnb hroom;go_enter func289,ntmps289;go_upto_region 1 with fail
 rw[HW1.out,HA.out];clear HW1 HA;go_wp2_with fail
 refine Calls.mono HC1.out ?_;rintro e w2⟨rfl,hD2⟩;obtain⟨d0,d9,hC⟩:=HC2.out _ hD2;have HC:Hid (Calls ..):=hC;clear hD2 HC1 HC2 c2 hC;go_wp2_with fail
 refine Calls.mono HC.out ?_;rintro e w3⟨rfl,hb,hfin⟩;have HFin:Hid (∀W',_->_):=hfin;clear hfin HC;go_wp2_with (first
  |(refine zak rfl _ _ rfl A 0 0 n 0 0 0 rfl rfl 0 0 0 0 0 0 hb ?_;intro w6 hw6 hf6;have HF6:Hid _:=HFin.out _ hf6;clear hf6)
  |fail)
 refine bodyPost_ret (zba rfl _ _ _ A _ rfl (zcs hw6.out)) rfl ?_;exact⟨rfl,HF6.out⟩
end
section
variable{w0 w w':World}{c:Cf}{T:List Tx}{Z:Lay}{s:Ms}
theorem zafu(h:MaM w0 w c T Z s)(hnr:Z.nr=s.d)(hW:Wf c T s){i:Nat}(hi:i<c.l.toNat){n:Int}{y:Wt}{r:List Wt}{ou:Nat}(hn:s.ln i=some ⟨n,y::r,ou⟩)(hsh:((shW c y:Nat):Int)=(Cf.shard c y.key).1/\shW c y<c.s.toNat)(hq:((s.qs (shW c y)).length:Int)<c.q)(hy:okW y)(hn1:1<=n/\n<=65536):Calls prog 289 #[.pointer (some ⟨Z.z.kw i,0,none⟩),.int .u8 5] w fun e w'=>StP w0 c T w Z s n (shW c y:Int) 0 (zbz c s i ⟨n,y::r,ou⟩ y r) e w':=by
 obtain⟨w1,HW1⟩:∃w1,Hid (w.alloc (.cells #[.int .i64 0,.int .u8 0,.int .i64 0,.int .i64 0,.int .i64 0,.int .i64 0] 62)=w1):=⟨_,rfl⟩;obtain⟨A,HA⟩:∃A,Hid (w.heap.size=A):=⟨_,rfl⟩;have hF1:Fr [] w w1:=by rw[<-HW1.out];exact Fr.alloc _ _ _
 have hBx:Bx w0 c T w1 Z s A:=by rw[<-HW1.out,<-HA.out];exact Bx.new h
 have h1:=h.quiet hF1;have hl16:=h.may.1;have c2:w1.cell? ⟨Z.z.kw i,2,none⟩=some (.pointer (some ⟨Z.z.la i,0,none⟩)):=(h1.kwc hi).2.2;obtain⟨I1,hI1⟩:∃I1:Int,((i+1:Nat):Int)=I1:=⟨_,rfl⟩;obtain⟨J,hJ⟩:∃J,shW c y=J:=⟨_,rfl⟩;have hI16:1<=I1/\I1<=16:=by omega
 have HC1:Hid (Calls prog 290 #[.pointer (some ⟨Z.z.la i,0,none⟩)] w1 fun e w'=>e=.returned (.tuple #[.int .i64 (J:Int),.agg #[.int .u8 1,.int .i64 I1,.int .i64 n,.string y.key,.string y.val,.bool y.drop,.string ⟨#[]⟩,.string ⟨#[]⟩,.slice none 0 0],.bool true])/\Dn w0 c T w1 Z s w' Z s):=by
  have hla:=h1.la hi;rw[hn]at hla
  refine (zcx hla).mono ?_;rintro e w'⟨rfl,hf⟩;refine⟨?_,h1.dn hf⟩;simp only[zfw,zfx,zfy,Rq.v];rw[<-hJ,hsh.1,hI1]
 have HC2:Hid (∀w2 W TB,Dn w0 c T w1 Z s w2 Z s->Fr [] w2 W->w2.heap.size<=TB->W.heap[TB]? = some (.cells #[.int .u8 1,.int .i64 I1,.int .i64 n,.string y.key,.string y.val,.bool y.drop,.string ⟨#[]⟩,.string ⟨#[]⟩,.slice none 0 0] 338 (0,0))->Calls prog 296 #[.pointer (some ⟨Z.z.ob J,0,none⟩),.agg #[.int .u8 1,.int .i64 I1,.int .i64 n,.string y.key,.string y.val,.bool y.drop,.string ⟨#[]⟩,.string ⟨#[]⟩,.slice none 0 0]] W fun e w'=>e=.returned (.tuple #[.bool true,.int .i64 0])/\w'.heap[TB]? = some (.cells #[.int .u8 1,.int .i64 I1,.int .i64 n,.string y.key,.string y.val,.bool y.drop,.string ⟨#[]⟩,.string ⟨#[]⟩,.slice none 0 0] 338 (0,0))/\w'.cell? ⟨Z.z.kw i,0,none⟩=some (.pointer (some ⟨Z.z.mb,0,none⟩))/\w'.cell? ⟨Z.z.kw i,2,none⟩=some (.pointer (some ⟨Z.z.la i,0,none⟩))/\w'.cell? ⟨Z.z.mb,11,none⟩=some (.slice (some ⟨Z.z.osB,0,none⟩) c.s.toNat Z.z.osC)/\w'.cell? ⟨Z.z.osB,J,none⟩=some (.pointer (some ⟨Z.z.ob J,0,none⟩))/\Hid (Calls prog 297 #[.pointer (some ⟨Z.z.la i,0,none⟩)] w' fun e w2=>e=.returned (.int .i64 0)/\w2.heap[TB]? = some (.cells #[.int .u8 1,.int .i64 I1,.int .i64 n,.string y.key,.string y.val,.bool y.drop,.string ⟨#[]⟩,.string ⟨#[]⟩,.slice none 0 0] 338 (0,0))/\w2.heap[A]? = some (.cells #[.int .i64 0,.int .u8 0,.int .i64 0,.int .i64 0,.int .i64 0,.int .i64 0] 62 (0,0))/\∀W',Fr [A] w2 W'->∃Z',Dn w0 c T w Z s W' Z' (zbz c s i ⟨n,y::r,ou⟩ y r)/\Z'.nr=(zbz c s i ⟨n,y::r,ou⟩ y r).d)):=fun w2 W TB hD hf hTB hbx=>by
  have hM:=hD.m.quiet hf;have hoff:=hD.offNew hf hTB;rw[hJ]at hq hsh
  refine (zabr hM hsh.2 I1 n y hI16 hn1 hy hq).mono ?_;rintro e w'⟨rfl,Z1,hD3,hnr1⟩;have hD4:=(hD.trans (hD.m.dn hf)).trans hD3;have hb':=hD3.keep hbx hoff;have hoff':=hD3.off (lt_of_block hbx) hoff;refine⟨rfl,hb',(hD4.kwc hi).1,(hD4.kwc hi).2,hD4.mc rfl,by have:=hD4.m.osc hsh.2;rw[hD4.z]at this;exact this,?_⟩;have hla:=hD4.m.la hi;rw[show ({s with qs:=upd s.qs J (s.qs J++[⟨I1,n,y⟩])}:Ms).ln i=some ⟨n,y::r,ou⟩ from hn,hD4.z]at hla
  refine Calls.mono (zxy hla) ?_;rintro e w2'⟨rfl,k1,k2⟩;have hD5:=hD4.m.setLa hi k2 (fun b hb _=>by rw[hD4.z];simpa using hb) (by rw[hD4.z];exact k1) (fun b hb=>Or.inl hb) (Nat.le_refl _);have hD6:=hD4.trans hD5;refine⟨rfl,hD5.keep hb' hoff',(hBx.then hD6).box,fun W' hf'=>⟨{Z1 with S:=upd Z1.S i (Z1.S i)},?_,hnr1.trans hnr⟩⟩;have hD7:=(hD6.steps (k:=s.k+1) (Nat.le_succ _)).fin h hF1 (by rw[HA.out];exact Nat.le_refl _) hBx hf';have e:zbz c s i ⟨n,y::r,ou⟩ y r={s with qs:=upd s.qs J (s.qs J++[⟨I1,n,y⟩]),ln:=upd s.ln i (some ⟨n,r,ou+1⟩),k:=s.k+1}:=by unfold zbz;rw[hJ,hI1]
  rw[e];exact hD7
 have HKc:Hid (∀W,Dn w0 c T w1 Z s W Z s->W.cell? ⟨Z.z.kw i,0,none⟩=some (.pointer (some ⟨Z.z.mb,0,none⟩))/\W.cell? ⟨Z.z.mb,11,none⟩=some (.slice (some ⟨Z.z.osB,0,none⟩) c.s.toNat Z.z.osC)/\W.cell? ⟨Z.z.osB,J,none⟩=some (.pointer (some ⟨Z.z.ob J,0,none⟩))):=fun W hD=>⟨(hD.kwc hi).1,hD.mc rfl,hD.m.osc (by rw[<-hJ];exact hsh.2)⟩;have hJS:=hsh.2;rw[hJ]at hJS ⊢
 obtain⟨SN,hSN⟩:∃SN,c.s.toNat=SN:=⟨_,rfl⟩;rw[hSN]at HC2 HKc hJS
 clear h hnr hW hn hF1 hBx h1 hsh hq hy hn1 hl16 hI1 hJ hI16 hSN;go_enter func289,ntmps289;go_upto_region 1 with fail
 rw[HW1.out,HA.out];clear HW1 HA;go_wp2_with fail
 refine Calls.mono HC1.out ?_;rintro e w2⟨rfl,hD2⟩;have HD2:Hid (Dn w0 c T w1 Z s w2 Z s):=hD2;clear hD2 HC1 c2;obtain⟨w3,HW3⟩:∃w3,Hid (w2.alloc (.cells #[.int .u8 1,.int .i64 I1,.int .i64 n,.string y.key,.string y.val,.bool y.drop,.string ⟨#[]⟩,.string ⟨#[]⟩,.slice none 0 0] 338)=w3):=⟨_,rfl⟩;obtain⟨TB,HTB⟩:∃TB,Hid (w2.heap.size=TB):=⟨_,rfl⟩;have hF3:Fr [] w2 w3:=by rw[<-HW3.out];exact Fr.alloc _ _ _
 have hb3:w3.heap[TB]? = some (.cells #[.int .u8 1,.int .i64 I1,.int .i64 n,.string y.key,.string y.val,.bool y.drop,.string ⟨#[]⟩,.string ⟨#[]⟩,.slice none 0 0] 338 (0,0)):=by rw[<-HW3.out,<-HTB.out];exact heap_alloc_new _ _
 obtain⟨d0,d11,dJ⟩:=HKc.out _ (HD2.out.trans (HD2.out.m.dn hF3));have HRc:Hid (∀W:World,W.heap[TB]? = some (.cells #[.int .u8 1,.int .i64 I1,.int .i64 n,.string y.key,.string y.val,.bool y.drop,.string ⟨#[]⟩,.string ⟨#[]⟩,.slice none 0 0] 338 (0,0))->W.cell? ⟨TB,0,none⟩=some (.int .u8 1)/\W.cell? ⟨TB,1,none⟩=some (.int .i64 I1)/\W.cell? ⟨TB,2,none⟩=some (.int .i64 n)/\W.cell? ⟨TB,3,none⟩=some (.string y.key)/\W.cell? ⟨TB,4,none⟩=some (.string y.val)/\W.cell? ⟨TB,5,none⟩=some (.bool y.drop)/\W.cell? ⟨TB,6,none⟩=some (.string ⟨#[]⟩)/\W.cell? ⟨TB,7,none⟩=some (.string ⟨#[]⟩)/\W.cell? ⟨TB,8,none⟩=some (.slice none 0 0)):=fun W hb=>by
  refine⟨?_,?_,?_,?_,?_,?_,?_,?_,?_⟩<;>(rw[crw hb];rfl)
 obtain⟨q0,q1,q2,q3,q4,q5,q6,q7,q8⟩:=HRc.out _ hb3;have HF3:Hid (Fr [] w2 w3.drew):=hF3.then (Fr.drew _ _);have HB3:Hid (w3.drew.heap[TB]? = _):=(Fr.drew [] w3).keep hb3 (by simp);clear hF3 hb3 HKc;go_upto_region 8 with fail
 rw[HW3.out,HTB.out];have hTB:w2.heap.size<=TB:=by rw[HTB.out];exact Nat.le_refl _
 have HC3:Hid (Calls ..):=HC2.out w2 w3.drew TB HD2.out HF3.out hTB HB3.out;clear HW3 HTB HC2 HD2 HF3 HB3 hTB;go_region_held3 (fun W=>W.cell? ⟨Z.z.kw i,0,none⟩=some (.pointer (some ⟨Z.z.mb,0,none⟩))/\W.cell? ⟨Z.z.mb,11,none⟩=some (.slice (some ⟨Z.z.osB,0,none⟩) SN Z.z.osC)/\W.cell? ⟨Z.z.osB,J,none⟩=some (.pointer (some ⟨Z.z.ob J,0,none⟩))/\W.cell? ⟨TB,0,none⟩=some (.int .u8 1)/\W.cell? ⟨TB,1,none⟩=some (.int .i64 I1)/\W.cell? ⟨TB,2,none⟩=some (.int .i64 n)/\W.cell? ⟨TB,3,none⟩=some (.string y.key)/\W.cell? ⟨TB,4,none⟩=some (.string y.val)/\W.cell? ⟨TB,5,none⟩=some (.bool y.drop)/\W.cell? ⟨TB,6,none⟩=some (.string ⟨#[]⟩)/\W.cell? ⟨TB,7,none⟩=some (.string ⟨#[]⟩)/\W.cell? ⟨TB,8,none⟩=some (.slice none 0 0)) (go_keep)
  (first
   |(with_reducible refine Calls.mono HC3.out ?_;rintro e w5⟨rfl,hb5,z0,z2,z11,zJ,HS5⟩;obtain⟨p0,p1,p2,p3,p4,p5,p6,p7,p8⟩:=HRc.out _ hb5))
 clear HC3 hb5 d0 d11 dJ q0 q1 q2 q3 q4 q5 q6 q7 q8;go_wp2_with fail
 refine Calls.mono HS5.out ?_;rintro e w6⟨rfl,hb6,hb,hfin⟩;have HFin:Hid (∀W',_->_):=hfin;obtain⟨_,_,p2,_⟩:=HRc.out _ hb6;clear hfin HS5 hb6 HRc;go_wp2_with (first
  |(refine zak rfl _ _ rfl A 0 0 n (J:Int) 0 0 rfl rfl 0 0 0 0 0 0 hb ?_;intro w7 hw6 hf6;have HF6:Hid _:=HFin.out _ hf6;clear hf6)
  |fail)
 refine bodyPost_ret (zba rfl _ _ _ A _ rfl (zcs hw6.out)) rfl ?_;exact⟨rfl,HF6.out⟩
end
end Go.Proofs.YtojjdnjfaelnfaaGreatDoor
