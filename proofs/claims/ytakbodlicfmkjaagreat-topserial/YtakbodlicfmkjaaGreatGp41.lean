/- Contracts and lemmas. -/
import Derived.Test.YtakbodlicfmkjaaGreatGp39
set_option maxHeartbeats 4000000
set_option maxRecDepth 100000
set_option linter.unusedSimpArgs false
set_option linter.unusedVariables false
namespace Go.Proofs.YtakbodlicfmkjaaGreat
open Go.ChangeShapes Go.WideShapes Go.ChangeAt Go.RowKit Go.Lib Go.Maps
section
variable{w0 w w':World}{c:Cf}{T:List Tx}{Z:Lay}{s:Ms}
def B2x(w:World)(b:Nat)(x y:Value):Prop:=w.heap[b]? = some (.cells #[x,y] 59 (0,0))
theorem zadf(h:MaM w0 w c T Z s)(hnr:Z.nr=s.d)(hW:Wf c T s){i:Nat}(hi:i<c.l.toNat)(hn:s.ln i=none){n:Int}{r:List Int}(hl:s.line=n::r):Calls Tryz.prog 270 #[.pointer (some ⟨Z.z.kw i,0,none⟩),.int .u8 4] w fun e w'=>StP w0 c T w Z s n 0 0 (zff T s i n r) e w':=by
 obtain⟨w1,HW1⟩:∃w1,Hid (w.alloc (.cells #[.int .i64 0,.int .u8 0,.int .i64 0,.int .i64 0,.int .i64 0,.int .i64 0] 35)=w1):=⟨_,rfl⟩;obtain⟨A,HA⟩:∃A,Hid (w.heap.size=A):=⟨_,rfl⟩;have hF1:Fr [] w w1:=by rw[<-HW1.out];exact Fr.alloc _ _ _
 have hBx:Bx w0 c T w1 Z s A:=by rw[<-HW1.out,<-HA.out];exact Bx.new h
 have h1:=h.quiet hF1;have hno:=(hW.line n (by rw[hl];simp)).1;have hnb:=(hW.op.1 hno).1;have hdT:=hW.dT;have hok:=hW.txn hnb.1 (by omega);obtain⟨K,hK⟩:∃K,(wsAt T n).length=K:=⟨_,rfl⟩;obtain⟨B,hB⟩:∃B,Z.kb n=B:=⟨_,rfl⟩;have c0:w1.cell? ⟨Z.z.kw i,0,none⟩=some (.pointer (some ⟨Z.z.mb,0,none⟩)):=(h1.kwc hi).1;have c8:w1.cell? ⟨Z.z.mb,8,none⟩=some (.pointer (some ⟨Z.z.lr,0,none⟩)):=h1.mc rfl;have HC1:Hid (Calls Tryz.prog 276 #[.pointer (some ⟨Z.z.lr,0,none⟩)] w1 fun e w'=>e=.returned (.tuple #[.agg #[.int .i64 n,.slice (some ⟨B,0,none⟩) K K],.bool true])/\Dn w0 c T w1 Z s w' Z {s with line:=r}):=by
  have hli:=h1.li;rw[hl,List.map_cons]at hli
  refine (GT.gtake_any (txR T Z.kb n) w1 hli).mono ?_;rintro e w'⟨rfl,k1,k2⟩;refine⟨?_,h1.setLi k2 k1 (GT.Mv.refl _ _) (Nat.le_refl _)⟩;rw[zabh,hB,hK];rfl
 have HC2:Hid (∀w2 W TB,Dn w0 c T w1 Z s w2 Z {s with line:=r}->Fr [] w2 W->w2.heap.size<=TB->B2x W TB (.int .i64 n) (.slice (some ⟨B,0,none⟩) K K)->Calls Tryz.prog 277 #[.pointer (some ⟨Z.z.la i,0,none⟩),.agg #[.int .i64 n,.slice (some ⟨B,0,none⟩) K K]] W fun e w'=>e=.returned (.int .i64 0)/\w'.cell? ⟨Z.z.kw i,2,none⟩=some (.pointer (some ⟨Z.z.la i,0,none⟩))/\w'.cell? ⟨TB,0,none⟩=some (.int .i64 n)/\w'.cell? ⟨TB,1,none⟩=some (.slice (some ⟨B,0,none⟩) K K)/\∃S',Dn w0 c T w1 Z s w' {Z with S:=upd Z.S i S'} {s with line:=r,ln:=upd s.ln i (some ⟨n,dd (wsAt T n),0⟩)}):=fun w2 W TB hD hf hTB hbx=>by
  have hM:=hD.m.quiet hf;have hoff:=hD.offNew hf hTB;have hre:=(hM.re n hnb.1 (by show n<=(Z.nr:Int);omega)).1;rw[hB]at hre
  have hla:=hM.la hi;have hla':LnM W (Z.z.la i) ((i+1:Nat):Int) c.l c.s c.w c.q none (Z.S i):=by rw[<-hn];exact hla
  refine (zvr n (some ⟨B,0,none⟩) K K (wsAt T n) hla' ⟨WRs.of_ok hok hre,hK.symm,by have:=hok.1;omega,by have:=hok.2.1;omega⟩ hok).mono ?_;rintro e w'⟨S',rfl,k1,k2,k3⟩;have hD3:=hM.setLa hi k3 (fun b hb _=>Or.inl (List.mem_singleton.1 hb)) k1 (fun b hb=>Or.inr (k2 b hb)) (Nat.le_refl _);have hD4:=(hD.trans (hD.m.dn hf)).trans hD3;have hb':=hD3.keep hbx hoff;exact⟨rfl,(hD4.kwc hi).2,by rw[crw hb'];rfl,by rw[crw hb'];rfl,S',hD4⟩
 have HE:Hid (∀W S',Dn w0 c T w1 Z s W {Z with S:=upd Z.S i S'} {s with line:=r,ln:=upd s.ln i (some ⟨n,dd (wsAt T n),0⟩)}->W.heap[A]? = some (.cells #[.int .i64 0,.int .u8 0,.int .i64 0,.int .i64 0,.int .i64 0,.int .i64 0] 35 (0,0))/\∀W',Fr [A] W W'->∃Z',Dn w0 c T w Z s W' Z' (zff T s i n r)/\Z'.nr=(zff T s i n r).d):=fun W S' hD=>by
  refine⟨(hBx.then hD).box,fun W' hf=> ?_⟩;exact⟨_,(hD.steps (k:=s.k+1) (Nat.le_succ _)).fin h hF1 (by rw[HA.out];exact Nat.le_refl _) hBx hf,hnr⟩
 have HKc:Hid (∀W,Dn w0 c T w1 Z s W Z {s with line:=r}->W.cell? ⟨Z.z.kw i,2,none⟩=some (.pointer (some ⟨Z.z.la i,0,none⟩))):=fun W hD=>(hD.kwc hi).2;clear h hnr hW hn hl hF1 hBx h1 hno hnb hdT hok hK hB;go_enter Tryz.func270,Tryz.ntmps270;go_upto_region 1 with fail
 rw[HW1.out,HA.out];clear HW1 HA;go_wp2_with fail
 refine Calls.mono HC1.out ?_;rintro e w2⟨rfl,hD2⟩;have HD2:Hid (Dn w0 c T w1 Z s w2 Z {s with line:=r}):=hD2;clear hD2 HC1 c0 c8;obtain⟨w3,HW3⟩:∃w3,Hid (w2.alloc (.cells #[.int .i64 n,.slice (some ⟨B,0,none⟩) K K] 59)=w3):=⟨_,rfl⟩;obtain⟨TB,HTB⟩:∃TB,Hid (w2.heap.size=TB):=⟨_,rfl⟩;have hF3:Fr [] w2 w3:=by rw[<-HW3.out];exact Fr.alloc _ _ _
 have hb3:B2x w3 TB (.int .i64 n) (.slice (some ⟨B,0,none⟩) K K):=by rw[<-HW3.out,<-HTB.out];exact heap_alloc_new _ _
 have c2:w3.cell? ⟨Z.z.kw i,2,none⟩=some (.pointer (some ⟨Z.z.la i,0,none⟩)):=HKc.out _ (HD2.out.trans (HD2.out.m.dn hF3));have t0:w3.cell? ⟨TB,0,none⟩=some (.int .i64 n):=by rw[crw hb3];rfl
 have t1:w3.cell? ⟨TB,1,none⟩=some (.slice (some ⟨B,0,none⟩) K K):=by rw[crw hb3];rfl
 have HF3:Hid (Fr [] w2 w3.drew):=hF3.then (Fr.drew _ _);have HB3:Hid (B2x w3.drew TB (.int .i64 n) (.slice (some ⟨B,0,none⟩) K K)):=(Fr.drew [] w3).keep hb3 (by simp);clear hF3 hb3 HKc;go_upto_region 4 with fail
 rw[HW3.out,HTB.out];have hTB:w2.heap.size<=TB:=by rw[HTB.out];exact Nat.le_refl _
 have HC3:Hid (Calls ..):=HC2.out w2 w3.drew TB HD2.out HF3.out hTB HB3.out;clear HW3 HTB HC2 HD2 HF3 HB3 hTB;go_region_held3 (fun W=>W.cell? ⟨Z.z.kw i,2,none⟩=some (.pointer (some ⟨Z.z.la i,0,none⟩))/\W.cell? ⟨TB,0,none⟩=some (.int .i64 n)/\W.cell? ⟨TB,1,none⟩=some (.slice (some ⟨B,0,none⟩) K K)) (go_keep)
  (first
   |(with_reducible refine Calls.mono HC3.out ?_;rintro e w5⟨rfl,y1,y2,y3,S',hD5⟩))
 have HD5:Hid _:=hD5;clear hD5 HC3;obtain⟨hb,hfin⟩:=HE.out w5 S' HD5.out;have HFin:Hid (∀W',_->_):=hfin;clear hfin HE HD5;go_wp2_with (first
  |(refine zag rfl _ _ rfl A 0 0 n 0 0 0 rfl rfl 0 0 0 0 0 0 hb ?_;intro w6 hw6 hf6;have HF6:Hid _:=HFin.out _ hf6;clear hf6)
  |fail)
 refine bodyPost_ret (zay rfl _ _ _ A _ rfl (zbv hw6.out)) rfl ?_;exact⟨rfl,HF6.out⟩
theorem zadg(h:MaM w0 w c T Z s)(hnr:Z.nr=s.d)(hW:Wf c T s){i:Nat}(hi:i<c.l.toNat){n:Int}(hn:s.ln i=some ⟨n,[],0⟩):Calls Tryz.prog 270 #[.pointer (some ⟨Z.z.kw i,0,none⟩),.int .u8 6] w fun e w'=>StP w0 c T w Z s n 0 0 (zgg s i n) e w':=by
 obtain⟨w1,HW1⟩:∃w1,Hid (w.alloc (.cells #[.int .i64 0,.int .u8 0,.int .i64 0,.int .i64 0,.int .i64 0,.int .i64 0] 35)=w1):=⟨_,rfl⟩;obtain⟨A,HA⟩:∃A,Hid (w.heap.size=A):=⟨_,rfl⟩;have hF1:Fr [] w w1:=by rw[<-HW1.out];exact Fr.alloc _ _ _
 have hBx:Bx w0 c T w1 Z s A:=by rw[<-HW1.out,<-HA.out];exact Bx.new h
 have h1:=h.quiet hF1;have hno:=(hW.lane i _ hi hn).1;have hnb:=hW.nd4 i _ hi hn;simp only at hno hnb;have hroom:s.pass.length<c.w.toNat:=by
  have:=zky (l:=s.pass++[n]) (a:=s.ma) (q:=c.w) (by
   rw[List.nodup_append];refine⟨hW.nd2,by simp,fun a ha b hb e=> ?_⟩;rw[List.mem_singleton.1 hb]at e
   exact hnb.2 (e▸ha)) (fun x hx=>by
   rcases List.mem_append.1 hx with hx|hx
   .exact hW.near (hW.pass x hx).1
   rw[List.mem_singleton.1 hx];exact hW.near hno)
  rw[List.length_append]at this
  simp only[List.length_cons,List.length_nil]at this;omega
 have c2:w1.cell? ⟨Z.z.kw i,2,none⟩=some (.pointer (some ⟨Z.z.la i,0,none⟩)):=(h1.kwc hi).2.2;have HC1:Hid (Calls Tryz.prog 280 #[.pointer (some ⟨Z.z.la i,0,none⟩)] w1 fun e w'=>e=.returned (.tuple #[.int .i64 n,.int .i64 0])/\Dn w0 c T w1 Z s w' {Z with S:=upd Z.S i (Z.S i)} {s with ln:=upd s.ln i none}):=by
  have hla:=h1.la hi;rw[hn]at hla
  refine (zvt hla).mono ?_;rintro e w'⟨rfl,k1,k2⟩;refine⟨by simp[zjx,zjy,zaz,zlg],h1.setLa hi k2 (fun b hb _=>by simpa using hb) (by simpa[zjz,zaz]using k1) (fun b hb=>Or.inl hb) (Nat.le_refl _)⟩
 have HC2:Hid (∀W,Dn w0 c T w1 Z s W {Z with S:=upd Z.S i (Z.S i)} {s with ln:=upd s.ln i none}->W.cell? ⟨Z.z.kw i,0,none⟩=some (.pointer (some ⟨Z.z.mb,0,none⟩))/\W.cell? ⟨Z.z.mb,9,none⟩=some (.pointer (some ⟨Z.z.pr,0,none⟩))/\Calls Tryz.prog 281 #[.pointer (some ⟨Z.z.pr,0,none⟩),.int .i64 n] W fun e w'=>e=.returned (.bool true)/\w'.heap[A]? = some (.cells #[.int .i64 0,.int .u8 0,.int .i64 0,.int .i64 0,.int .i64 0,.int .i64 0] 35 (0,0))/\∀W',Fr [A] w' W'->∃Z',Dn w0 c T w Z s W' Z' (zgg s i n)/\Z'.nr=(zgg s i n).d):=fun W hD=>by
  refine⟨(hD.kwc hi).1,hD.mc rfl,(GI.gput_any n W hD.m.pa hroom).mono ?_⟩;rintro e w'⟨rfl,p',k1,k2,k3⟩;have hD2:=hD.trans (hD.m.setPa k2 k1 k3 (Nat.le_refl _));exact⟨rfl,(hBx.then hD2).box,fun W' hf=>⟨_,(hD2.steps (k:=s.k+1) (Nat.le_succ _)).fin h hF1 (by rw[HA.out];exact Nat.le_refl _) hBx hf,hnr⟩⟩
 clear h hnr hW hn hF1 hBx h1 hno hnb hroom;go_enter Tryz.func270,Tryz.ntmps270;go_upto_region 1 with fail
 rw[HW1.out,HA.out];clear HW1 HA;go_wp2_with fail
 refine Calls.mono HC1.out ?_;rintro e w2⟨rfl,hD2⟩;obtain⟨d0,d9,hC⟩:=HC2.out _ hD2;have HC:Hid (Calls ..):=hC;clear hD2 HC1 HC2 c2 hC;go_wp2_with fail
 refine Calls.mono HC.out ?_;rintro e w3⟨rfl,hb,hfin⟩;have HFin:Hid (∀W',_->_):=hfin;clear hfin HC;go_wp2_with (first
  |(refine zag rfl _ _ rfl A 0 0 n 0 0 0 rfl rfl 0 0 0 0 0 0 hb ?_;intro w6 hw6 hf6;have HF6:Hid _:=HFin.out _ hf6;clear hf6)
  |fail)
 refine bodyPost_ret (zay rfl _ _ _ A _ rfl (zbv hw6.out)) rfl ?_;exact⟨rfl,HF6.out⟩
end
end Go.Proofs.YtakbodlicfmkjaaGreat
