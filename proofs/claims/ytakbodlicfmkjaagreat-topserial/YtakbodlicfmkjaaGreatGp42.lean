/- Contracts and lemmas. -/
import Derived.Test.YtakbodlicfmkjaaGreatGp39
set_option maxHeartbeats 4000000
set_option maxRecDepth 100000
set_option linter.unusedSimpArgs false
set_option linter.unusedVariables false
namespace Go.Proofs.YtakbodlicfmkjaaGreat
open Go.ChangeShapes Go.WideShapes Go.ChangeAt Go.RowKit Go.Lib Go.Maps
section
variable{w0 w w':World}{c:Cf}{T:List Tx}{Z:Lay}{s:Ms}
theorem zadh(h:MaM w0 w c T Z s)(hnr:Z.nr=s.d)(hW:Wf c T s){i:Nat}(hi:i<c.l.toNat){n:Int}{y:Wt}{r:List Wt}{ou:Nat}(hn:s.ln i=some ⟨n,y::r,ou⟩)(hsh:((shW c y:Nat):Int)=(Cf.shard c y.key).1/\shW c y<c.s.toNat)(hq:((s.qs (shW c y)).length:Int)<c.q)(hy:okW y)(hn1:1<=n/\n<=65536):Calls Tryz.prog 270 #[.pointer (some ⟨Z.z.kw i,0,none⟩),.int .u8 5] w fun e w'=>StP w0 c T w Z s n (shW c y:Int) 0 (zbt c s i ⟨n,y::r,ou⟩ y r) e w':=by
 obtain⟨w1,HW1⟩:∃w1,Hid (w.alloc (.cells #[.int .i64 0,.int .u8 0,.int .i64 0,.int .i64 0,.int .i64 0,.int .i64 0] 35)=w1):=⟨_,rfl⟩;obtain⟨A,HA⟩:∃A,Hid (w.heap.size=A):=⟨_,rfl⟩;have hF1:Fr [] w w1:=by rw[<-HW1.out];exact Fr.alloc _ _ _
 have hBx:Bx w0 c T w1 Z s A:=by rw[<-HW1.out,<-HA.out];exact Bx.new h
 have h1:=h.quiet hF1;have hl16:=h.may.1;have c2:w1.cell? ⟨Z.z.kw i,2,none⟩=some (.pointer (some ⟨Z.z.la i,0,none⟩)):=(h1.kwc hi).2.2;obtain⟨I1,hI1⟩:∃I1:Int,((i+1:Nat):Int)=I1:=⟨_,rfl⟩;obtain⟨J,hJ⟩:∃J,shW c y=J:=⟨_,rfl⟩;have hI16:1<=I1/\I1<=16:=by omega
 have HC1:Hid (Calls Tryz.prog 271 #[.pointer (some ⟨Z.z.la i,0,none⟩)] w1 fun e w'=>e=.returned (.tuple #[.int .i64 (J:Int),.agg #[.int .u8 1,.int .i64 I1,.int .i64 n,.string y.key,.string y.val,.bool y.drop,.string ⟨#[]⟩,.string ⟨#[]⟩,.slice none 0 0],.bool true])/\Dn w0 c T w1 Z s w' Z s):=by
  have hla:=h1.la hi;rw[hn]at hla
  refine (zcs hla).mono ?_;rintro e w'⟨rfl,hf⟩;refine⟨?_,h1.dn hf⟩;simp only[zgi,zgj,zgk,Rq.v];rw[<-hJ,hsh.1,hI1]
 have HC2:Hid (∀w2 W TB,Dn w0 c T w1 Z s w2 Z s->Fr [] w2 W->w2.heap.size<=TB->W.heap[TB]? = some (.cells #[.int .u8 1,.int .i64 I1,.int .i64 n,.string y.key,.string y.val,.bool y.drop,.string ⟨#[]⟩,.string ⟨#[]⟩,.slice none 0 0] 278 (0,0))->Calls Tryz.prog 278 #[.pointer (some ⟨Z.z.ob J,0,none⟩),.agg #[.int .u8 1,.int .i64 I1,.int .i64 n,.string y.key,.string y.val,.bool y.drop,.string ⟨#[]⟩,.string ⟨#[]⟩,.slice none 0 0]] W fun e w'=>e=.returned (.tuple #[.bool true,.int .i64 0])/\w'.heap[TB]? = some (.cells #[.int .u8 1,.int .i64 I1,.int .i64 n,.string y.key,.string y.val,.bool y.drop,.string ⟨#[]⟩,.string ⟨#[]⟩,.slice none 0 0] 278 (0,0))/\w'.cell? ⟨Z.z.kw i,0,none⟩=some (.pointer (some ⟨Z.z.mb,0,none⟩))/\w'.cell? ⟨Z.z.kw i,2,none⟩=some (.pointer (some ⟨Z.z.la i,0,none⟩))/\w'.cell? ⟨Z.z.mb,11,none⟩=some (.slice (some ⟨Z.z.osB,0,none⟩) c.s.toNat Z.z.osC)/\w'.cell? ⟨Z.z.osB,J,none⟩=some (.pointer (some ⟨Z.z.ob J,0,none⟩))/\Hid (Calls Tryz.prog 279 #[.pointer (some ⟨Z.z.la i,0,none⟩)] w' fun e w2=>e=.returned (.int .i64 0)/\w2.heap[TB]? = some (.cells #[.int .u8 1,.int .i64 I1,.int .i64 n,.string y.key,.string y.val,.bool y.drop,.string ⟨#[]⟩,.string ⟨#[]⟩,.slice none 0 0] 278 (0,0))/\w2.heap[A]? = some (.cells #[.int .i64 0,.int .u8 0,.int .i64 0,.int .i64 0,.int .i64 0,.int .i64 0] 35 (0,0))/\∀W',Fr [A] w2 W'->∃Z',Dn w0 c T w Z s W' Z' (zbt c s i ⟨n,y::r,ou⟩ y r)/\Z'.nr=(zbt c s i ⟨n,y::r,ou⟩ y r).d)):=fun w2 W TB hD hf hTB hbx=>by
  have hM:=hD.m.quiet hf;have hoff:=hD.offNew hf hTB;rw[hJ]at hq hsh
  refine (zzu hM hsh.2 I1 n y hI16 hn1 hy hq).mono ?_;rintro e w'⟨rfl,Z1,hD3,hnr1⟩;have hD4:=(hD.trans (hD.m.dn hf)).trans hD3;have hb':=hD3.keep hbx hoff;have hoff':=hD3.off (lt_of_block hbx) hoff;refine⟨rfl,hb',(hD4.kwc hi).1,(hD4.kwc hi).2,hD4.mc rfl,by have:=hD4.m.osc hsh.2;rw[hD4.z]at this;exact this,?_⟩;have hla:=hD4.m.la hi;rw[show ({s with qs:=upd s.qs J (s.qs J++[⟨I1,n,y⟩])}:Ms).ln i=some ⟨n,y::r,ou⟩ from hn,hD4.z]at hla
  refine Calls.mono (zvs hla) ?_;rintro e w2'⟨rfl,k1,k2⟩;have hD5:=hD4.m.setLa hi k2 (fun b hb _=>by rw[hD4.z];simpa using hb) (by rw[hD4.z];exact k1) (fun b hb=>Or.inl hb) (Nat.le_refl _);have hD6:=hD4.trans hD5;refine⟨rfl,hD5.keep hb' hoff',(hBx.then hD6).box,fun W' hf'=>⟨{Z1 with S:=upd Z1.S i (Z1.S i)},?_,hnr1.trans hnr⟩⟩;have hD7:=(hD6.steps (k:=s.k+1) (Nat.le_succ _)).fin h hF1 (by rw[HA.out];exact Nat.le_refl _) hBx hf';have e:zbt c s i ⟨n,y::r,ou⟩ y r={s with qs:=upd s.qs J (s.qs J++[⟨I1,n,y⟩]),ln:=upd s.ln i (some ⟨n,r,ou+1⟩),k:=s.k+1}:=by unfold zbt;rw[hJ,hI1]
  rw[e];exact hD7
 have HKc:Hid (∀W,Dn w0 c T w1 Z s W Z s->W.cell? ⟨Z.z.kw i,0,none⟩=some (.pointer (some ⟨Z.z.mb,0,none⟩))/\W.cell? ⟨Z.z.mb,11,none⟩=some (.slice (some ⟨Z.z.osB,0,none⟩) c.s.toNat Z.z.osC)/\W.cell? ⟨Z.z.osB,J,none⟩=some (.pointer (some ⟨Z.z.ob J,0,none⟩))):=fun W hD=>⟨(hD.kwc hi).1,hD.mc rfl,hD.m.osc (by rw[<-hJ];exact hsh.2)⟩;have hJS:=hsh.2;rw[hJ]at hJS ⊢
 obtain⟨SN,hSN⟩:∃SN,c.s.toNat=SN:=⟨_,rfl⟩;rw[hSN]at HC2 HKc hJS
 clear h hnr hW hn hF1 hBx h1 hsh hq hy hn1 hl16 hI1 hJ hI16 hSN;go_enter Tryz.func270,Tryz.ntmps270;go_upto_region 1 with fail
 rw[HW1.out,HA.out];clear HW1 HA;go_wp2_with fail
 refine Calls.mono HC1.out ?_;rintro e w2⟨rfl,hD2⟩;have HD2:Hid (Dn w0 c T w1 Z s w2 Z s):=hD2;clear hD2 HC1 c2;obtain⟨w3,HW3⟩:∃w3,Hid (w2.alloc (.cells #[.int .u8 1,.int .i64 I1,.int .i64 n,.string y.key,.string y.val,.bool y.drop,.string ⟨#[]⟩,.string ⟨#[]⟩,.slice none 0 0] 278)=w3):=⟨_,rfl⟩;obtain⟨TB,HTB⟩:∃TB,Hid (w2.heap.size=TB):=⟨_,rfl⟩;have hF3:Fr [] w2 w3:=by rw[<-HW3.out];exact Fr.alloc _ _ _
 have hb3:w3.heap[TB]? = some (.cells #[.int .u8 1,.int .i64 I1,.int .i64 n,.string y.key,.string y.val,.bool y.drop,.string ⟨#[]⟩,.string ⟨#[]⟩,.slice none 0 0] 278 (0,0)):=by rw[<-HW3.out,<-HTB.out];exact heap_alloc_new _ _
 obtain⟨d0,d11,dJ⟩:=HKc.out _ (HD2.out.trans (HD2.out.m.dn hF3));have HRc:Hid (∀W:World,W.heap[TB]? = some (.cells #[.int .u8 1,.int .i64 I1,.int .i64 n,.string y.key,.string y.val,.bool y.drop,.string ⟨#[]⟩,.string ⟨#[]⟩,.slice none 0 0] 278 (0,0))->W.cell? ⟨TB,0,none⟩=some (.int .u8 1)/\W.cell? ⟨TB,1,none⟩=some (.int .i64 I1)/\W.cell? ⟨TB,2,none⟩=some (.int .i64 n)/\W.cell? ⟨TB,3,none⟩=some (.string y.key)/\W.cell? ⟨TB,4,none⟩=some (.string y.val)/\W.cell? ⟨TB,5,none⟩=some (.bool y.drop)/\W.cell? ⟨TB,6,none⟩=some (.string ⟨#[]⟩)/\W.cell? ⟨TB,7,none⟩=some (.string ⟨#[]⟩)/\W.cell? ⟨TB,8,none⟩=some (.slice none 0 0)):=fun W hb=>by
  refine⟨?_,?_,?_,?_,?_,?_,?_,?_,?_⟩<;>(rw[crw hb];rfl)
 obtain⟨q0,q1,q2,q3,q4,q5,q6,q7,q8⟩:=HRc.out _ hb3;have HF3:Hid (Fr [] w2 w3.drew):=hF3.then (Fr.drew _ _);have HB3:Hid (w3.drew.heap[TB]? = _):=(Fr.drew [] w3).keep hb3 (by simp);clear hF3 hb3 HKc;go_upto_region 8 with fail
 rw[HW3.out,HTB.out];have hTB:w2.heap.size<=TB:=by rw[HTB.out];exact Nat.le_refl _
 have HC3:Hid (Calls ..):=HC2.out w2 w3.drew TB HD2.out HF3.out hTB HB3.out;clear HW3 HTB HC2 HD2 HF3 HB3 hTB;go_region_held3 (fun W=>W.cell? ⟨Z.z.kw i,0,none⟩=some (.pointer (some ⟨Z.z.mb,0,none⟩))/\W.cell? ⟨Z.z.mb,11,none⟩=some (.slice (some ⟨Z.z.osB,0,none⟩) SN Z.z.osC)/\W.cell? ⟨Z.z.osB,J,none⟩=some (.pointer (some ⟨Z.z.ob J,0,none⟩))/\W.cell? ⟨TB,0,none⟩=some (.int .u8 1)/\W.cell? ⟨TB,1,none⟩=some (.int .i64 I1)/\W.cell? ⟨TB,2,none⟩=some (.int .i64 n)/\W.cell? ⟨TB,3,none⟩=some (.string y.key)/\W.cell? ⟨TB,4,none⟩=some (.string y.val)/\W.cell? ⟨TB,5,none⟩=some (.bool y.drop)/\W.cell? ⟨TB,6,none⟩=some (.string ⟨#[]⟩)/\W.cell? ⟨TB,7,none⟩=some (.string ⟨#[]⟩)/\W.cell? ⟨TB,8,none⟩=some (.slice none 0 0)) (go_keep)
  (first
   |(with_reducible refine Calls.mono HC3.out ?_;rintro e w5⟨rfl,hb5,z0,z2,z11,zJ,HS5⟩;obtain⟨p0,p1,p2,p3,p4,p5,p6,p7,p8⟩:=HRc.out _ hb5))
 clear HC3 hb5 d0 d11 dJ q0 q1 q2 q3 q4 q5 q6 q7 q8;go_wp2_with fail
 refine Calls.mono HS5.out ?_;rintro e w6⟨rfl,hb6,hb,hfin⟩;have HFin:Hid (∀W',_->_):=hfin;obtain⟨_,_,p2,_⟩:=HRc.out _ hb6;clear hfin HS5 hb6 HRc;go_wp2_with (first
  |(refine zag rfl _ _ rfl A 0 0 n (J:Int) 0 0 rfl rfl 0 0 0 0 0 0 hb ?_;intro w7 hw6 hf6;have HF6:Hid _:=HFin.out _ hf6;clear hf6)
  |fail)
 refine bodyPost_ret (zay rfl _ _ _ A _ rfl (zbv hw6.out)) rfl ?_;exact⟨rfl,HF6.out⟩
end
end Go.Proofs.YtakbodlicfmkjaaGreat
