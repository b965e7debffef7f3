/- Contracts and lemmas. -/
import Derived.Test.YtaigdcmoecgabaaGreatGp36
set_option maxHeartbeats 4000000
set_option maxRecDepth 100000
set_option linter.unusedSimpArgs false
set_option linter.unusedVariables false
namespace Go.Proofs.YtaigdcmoecgabaaGreat
open Go.ChangeShapes Go.WideShapes Go.ChangeAt Go.RowKit Go.Lib Go.Maps
section
variable{w0 w w':World}{c:Cf}{T:List Tx}{Z:Lay}{s:Ms}
theorem zwr(T:List Tx)(kb:Int->Nat)(wt:Int->Prop)(n:Int):updF (wtF T kb wt) n none=wtF T kb (fun m=>wt m/\m≠n):=by
 funext m
 by_cases e:m=n
 .subst e;rw[zad];unfold wtF;rw[if_neg (fun x=>x.2 rfl)]
 rw[zab _ _ e];unfold wtF;by_cases hm:wt m
 .rw[if_pos hm,if_pos ⟨hm,e⟩]
 rw[if_neg hm,if_neg (fun x=>hm x.1)]
theorem zyq(T:List Tx)(kb:Int->Nat)(n:Int):(txR T kb n).v=tx3V (some (n,kb n,(wsAt T n).length)):=rfl
def zkh(w0:World)(c:Cf)(T:List Tx)(w:World)(Z:Lay)(s:Ms)(n:Int)(w':World):Prop:=∃p',Dn w0 c T w Z s w' {Z with lp:=p'} {s with line:=s.line++[n],wt:=fun m=>s.wt m/\m≠n}
theorem zlm(h:MaM w0 w c T Z s){n:Int}(hi:i64 n)(hn:s.wt n)(hroom:s.line.length<c.w.toNat):Calls Tryz.prog 257 #[.pointer (some ⟨Z.z.mb,0,none⟩),.int .i64 n] w fun e w'=>(∃v,e=.returned v)/\zkh w0 c T w Z s n w':=by
 have c7:∀q,(w.drewN q).cell? ⟨Z.z.mb,7,none⟩=some (.map (some Z.z.wb)):=fun q=>h.mc rfl;have c8:w.cell? ⟨Z.z.mb,8,none⟩=some (.pointer (some ⟨Z.z.lr,0,none⟩)):=h.mc rfl;have c70:w.cell? ⟨Z.z.mb,7,none⟩=some (.map (some Z.z.wb)):=h.mc rfl;obtain⟨K,hK⟩:∃K,(wsAt T n).length=K:=⟨_,rfl⟩;obtain⟨B,hB⟩:∃B,Z.kb n=B:=⟨_,rfl⟩;have hF:wtF T Z.kb s.wt n=some (some (n,B,K)):=by unfold wtF;rw[if_pos hn,hB,hK]
 have hlk:∀W,Fr [] w W->(Instr.lookup 101 (.map (some Z.z.wb)) (.int .i64 n) false).run Tryz.prog W=.ok (.agg #[.int .i64 n,.slice (some ⟨B,0,none⟩) K K]) W:=fun W hf=>by
  have:=(h.quiet hf).wa.look n hi;rw[hF]at this
  exact this
 have hlkw:=hlk w (Fr.refl _ _);have hlkd:∀q,(Instr.lookup 101 (.map (some Z.z.wb)) (.int .i64 n) false).run Tryz.prog (w.drewN q)=.ok (.agg #[.int .i64 n,.slice (some ⟨B,0,none⟩) K K]) (w.drewN q):=fun q=>hlk _ (Fr.drewN _ _ _);have hlk1:(Instr.lookup 101 (.map (some Z.z.wb)) (.int .i64 n) false).run Tryz.prog w.drew=.ok (.agg #[.int .i64 n,.slice (some ⟨B,0,none⟩) K K]) w.drew:=hlk _ (Fr.drew _ _);have HP:Hid (∀W,Fr [] w W->Calls Tryz.prog 259 #[.pointer (some ⟨Z.z.lr,0,none⟩),.agg #[.int .i64 n,.slice (some ⟨B,0,none⟩) K K]] W fun e w'=>e=.returned (.bool true)/\w'.cell? ⟨Z.z.mb,7,none⟩=some (.map (some Z.z.wb))/\w'.cell? ⟨Z.z.mb,8,none⟩=some (.pointer (some ⟨Z.z.lr,0,none⟩))/\(Instr.lookup 101 (.map (some Z.z.wb)) (.int .i64 n) false).run Tryz.prog w'=.ok (.agg #[.int .i64 n,.slice (some ⟨B,0,none⟩) K K]) w'/\(∃w2,(Builtin.delete_ #[101,3] 0 #[.map (some Z.z.wb),.int .i64 n]).run Tryz.prog w'=.ok (.tuple #[]) w2/\zkh w0 c T w Z s n w2)):=fun W hf=>by
  have hW:=h.quiet hf;have hx:(txR T Z.kb n).v=.agg #[.int .i64 n,.slice (some ⟨B,0,none⟩) K K]:=by rw[zyq,hB,hK];rfl
  refine Calls.mono (by rw[<-hx];exact GT.gput_any (txR T Z.kb n) W hW.li (by rw[List.length_map];exact hroom)) ?_;rintro e w1⟨rfl,p',h1,h2,h3⟩;have h1':GT.Rg w1 Z.z.lr p' c.w.toNat ((s.line++[n]).map (txR T Z.kb)) false:=by rw[List.map_append];exact h1
  have hD:=(h.dn hf).trans (hW.setLi h2 h1' h3 (Nat.le_refl _));have hM:=hD.m;obtain⟨w2,k1,k2,k3⟩:=hM.wa.drop n hi 0;rw[zwr]at k2
  have hl:=hM.wa.look n hi;rw[show wtF T Z.kb s.wt n=some (some (n,B,K)) from hF]at hl
  exact⟨rfl,hM.mc rfl,hM.mc rfl,hl,w2,k1,p',hD.trans (hM.setWa k3 k2 hM.few.2.1 (Nat.le_refl _))⟩
 clear h hF hlk hK hB;go_enter Tryz.func257,Tryz.ntmps257;go_wp2_with fail
 go_region_held3 (fun W=>W.cell? ⟨Z.z.mb,7,none⟩=some (.map (some Z.z.wb))/\W.cell? ⟨Z.z.mb,8,none⟩=some (.pointer (some ⟨Z.z.lr,0,none⟩))/\(Instr.lookup 101 (.map (some Z.z.wb)) (.int .i64 n) false).run Tryz.prog W=.ok (.agg #[.int .i64 n,.slice (some ⟨B,0,none⟩) K K]) W) (go_keep)
  (first
   |(with_reducible refine Calls.mono (HP.out _ (Fr.drew _ _)) ?_;rintro e w5⟨rfl,y1,z1,z2,w6,y2,y3⟩))
 have HY:Hid (zkh w0 c T w Z s n w6):=y3;have HD:Hid (∃w',(Builtin.delete_ #[101,3] 0 #[.map (some Z.z.wb),.int .i64 n]).run Tryz.prog w5=.ok (.tuple #[]) w'/\zkh w0 c T w Z s n w'):=⟨w6,y2,HY.out⟩;clear y3 y2 z1 z2 HY;go_wp2_with (first|(at_delete;refine zgq _ rfl _ _ _ _ rfl (.map (some Z.z.wb)) (.int .i64 n) rfl rfl (HD.out) ?_;rintro w7 hR;have HR:Hid (zkh w0 c T w Z s n w7):=hR;clear hR)|fail)
 go_wp2
 go_end0
 exact⟨⟨_,rfl⟩,HR.out⟩
end
section
variable{w0 w w':World}{c:Cf}{T:List Tx}{Z:Lay}{s:Ms}
theorem MaM.readF(h:MaM w0 w c T Z s)(hv:s.hv=false)(hr:s.rd<s.fd) :
  Calls Tryz.prog 251 #[.pointer (some ⟨Z.z.fb,0,none⟩)] w fun e w'=>e=.returned (.tuple #[.int .i64 ((s.rd+1:Nat):Int),.int .i64 0])/\∃v' hw',Dn w0 c T w Z s w' {Z with v:=v',hw:=hw'} {s with rd:=s.rd+1,hv:=true}:=by
 have hfe:=h.fe;have hm:=hfe.m;have hfl:=hm.fl;have hfew:=hm.src.few;have rc:(⟨s.rd,s.fd,c.w.toNat,s.hv,false⟩:F.Fe).readC=0:=by simp[F.Fe.readC,hv];omega
 refine (F.fRead_any hm (by have h1:=zge hm.ok;have h2:s.fd<=Z.y.ts.length:=hm.fl;simp[txs]at h1;simp[askd];omega)).mono ?_;rintro e w'⟨rfl,(⟨k,_⟩|⟨_,v',hw',k1,k2,k3,kb,kn,rfl,k5⟩)⟩
 .exact absurd rc k
 have rn:(⟨s.rd,s.fd,c.w.toNat,s.hv,false⟩:F.Fe).readN=s.rd+1:=by simp[F.Fe.readN,rc]
 have rs:(⟨s.rd,s.fd,c.w.toNat,s.hv,false⟩:F.Fe).readS=⟨s.rd+1,s.fd,c.w.toNat,true,false⟩:=by simp[F.Fe.readS,rc]
 rw[rs]at k1
 have ha:askd s.rd++[(⟨s.rd,s.fd,c.w.toNat,s.hv,false⟩:F.Fe).rd+1]=askd (s.rd+1):=(ztp _).symm;rw[ha]at k1
 have hkb:kb<w'.heap.size:=by
  obtain⟨_,k,e1,e2,_⟩:=k1.held rfl;have:kb=k:=by cases e1;rfl
  rw[this];exact lt_of_block e2
 have hd:=h.setFe k2 (fun b hb _=> ?_) (v':=v') (hw':=.slice (some ⟨kb,0,none⟩) kn kn) (rd:=s.rd+1) (fd:=s.fd) (hv:=true) (k:=s.k) ⟨k1,hfe.f0,hfe.g0,hfe.l0,hfe.m0,hfe.t0,Nat.le_trans hfe.b0 k2.size,fun k hk=> ?_,fun k hk=> ?_⟩ (fun b hb=> ?_) (Nat.le_refl _)
 .exact⟨by rw[rn,rc];rfl,v',_,hd⟩
 .rcases List.mem_cons.1 hb with rfl|hb
  .exact Or.inl ⟨hm.fn,hfe.f0⟩
  simp only[F.Src.own,List.mem_cons,Option.mem_toList]at hb;rcases hb with rfl|hb
  .exact Or.inl ⟨hm.src.gn,hfe.g0⟩
  exact Or.inr (Or.inl hb)
 .simp[Value.ownBlock]at hk
  subst hk;exact⟨Nat.le_trans h.fr.size k5,hkb⟩
 .simp[Value.ownBlock]at hk
  subst hk;exact Nat.le_trans hfe.b0 k5
 rcases hb with hb|hb|hb
 .exact Or.inl (Or.inl hb)
 .rcases k3 with e|⟨k,e,hk⟩
  .exact Or.inl (Or.inr (Or.inl (by rw[<-e];exact hb)))
  rw[e]at hb;cases hb;exact Or.inr hk
 simp[Value.ownBlock]at hb
 subst hb;exact Or.inr k5
theorem zaab(h:MaM w0 w c T Z s)(hnr:Z.nr=s.d)(hv:s.hv=false)(hr:s.rd<s.fd):Calls Tryz.prog 250 #[.pointer (some ⟨Z.z.kd,0,none⟩),.int .u8 1] w fun e w'=>StP w0 c T w Z s ((s.rd+1:Nat):Int) 0 0 (zil s) e w':=by
 obtain⟨w1,HW1⟩:∃w1,Hid (w.alloc (.cells #[.int .i64 0,.int .u8 0,.int .i64 0,.int .i64 0,.int .i64 0,.int .i64 0] 40)=w1):=⟨_,rfl⟩;obtain⟨A,HA⟩:∃A,Hid (w.heap.size=A):=⟨_,rfl⟩;have hF1:Fr [] w w1:=by rw[<-HW1.out];exact Fr.alloc _ _ _
 have hBx:Bx w0 c T w1 Z s A:=by rw[<-HW1.out,<-HA.out];exact Bx.new h
 have h1:=h.quiet hF1;obtain⟨N,hN⟩:∃N:Int,((s.rd+1:Nat):Int)=N:=⟨_,rfl⟩;have c0:w1.cell? ⟨Z.z.kd,0,none⟩=some (.pointer (some ⟨Z.z.mb,0,none⟩)):=h1.kdc.1;have c5:w1.cell? ⟨Z.z.mb,5,none⟩=some (.pointer (some ⟨Z.z.fb,0,none⟩)):=h1.mc rfl;have HC1:Hid (Calls Tryz.prog 251 #[.pointer (some ⟨Z.z.fb,0,none⟩)] w1 fun e w'=>e=.returned (.tuple #[.int .i64 N,.int .i64 0])/\w'.heap[A]? = some (.cells #[.int .i64 0,.int .u8 0,.int .i64 0,.int .i64 0,.int .i64 0,.int .i64 0] 40 (0,0))/\∀W',Fr [A] w' W'->∃Z',Dn w0 c T w Z s W' Z' (zil s)/\Z'.nr=(zil s).d):=by
  refine (h1.readF hv hr).mono ?_;rintro e w'⟨rfl,v',hw',hD⟩;refine⟨by rw[hN],(hBx.then hD).box,fun W' hf=>⟨_,(hD.steps (k:=s.k+1) (Nat.le_succ _)).fin h hF1 (by rw[HA.out];exact Nat.le_refl _) hBx hf,hnr⟩⟩
 rw[hN];clear h hnr hv hr hF1 hBx h1 hN;go_enter Tryz.func250,Tryz.ntmps250;go_upto_region 1 with fail
 rw[HW1.out,HA.out];clear HW1 HA;go_wp2_with fail
 refine Calls.mono HC1.out ?_;rintro e w2⟨rfl,hb,hfin⟩;have HFin:Hid (∀W',_->_):=hfin;clear hfin HC1 c0 c5;go_wp2_with (first
  |(refine zag rfl _ _ rfl A 0 0 N 0 0 0 rfl rfl 0 0 0 0 0 0 hb ?_;intro w6 hw6 hf6;have HF6:Hid _:=HFin.out _ hf6;clear hf6)
  |fail)
 refine bodyPost_ret (zax rfl _ _ _ A _ rfl (zbr hw6.out)) rfl ?_;exact⟨rfl,HF6.out⟩
end
section
variable{w0 w w':World}{c:Cf}{T:List Tx}{Z:Lay}{s:Ms}
def B2x(w:World)(b:Nat)(x y:Value):Prop:=w.heap[b]? = some (.cells #[x,y] 54 (0,0))
theorem zaad(h:MaM w0 w c T Z s)(hnr:Z.nr=s.d)(hW:Wf c T s){i:Nat}(hi:i<c.l.toNat)(hn:s.ln i=none){n:Int}{r:List Int}(hl:s.line=n::r):Calls Tryz.prog 269 #[.pointer (some ⟨Z.z.kw i,0,none⟩),.int .u8 4] w fun e w'=>StP w0 c T w Z s n 0 0 (zen T s i n r) e w':=by
 obtain⟨w1,HW1⟩:∃w1,Hid (w.alloc (.cells #[.int .i64 0,.int .u8 0,.int .i64 0,.int .i64 0,.int .i64 0,.int .i64 0] 40)=w1):=⟨_,rfl⟩;obtain⟨A,HA⟩:∃A,Hid (w.heap.size=A):=⟨_,rfl⟩;have hF1:Fr [] w w1:=by rw[<-HW1.out];exact Fr.alloc _ _ _
 have hBx:Bx w0 c T w1 Z s A:=by rw[<-HW1.out,<-HA.out];exact Bx.new h
 have h1:=h.quiet hF1;have hno:=(hW.line n (by rw[hl];simp)).1;have hnb:=(hW.op.1 hno).1;have hdT:=hW.dT;have hok:=hW.txn hnb.1 (by omega);obtain⟨K,hK⟩:∃K,(wsAt T n).length=K:=⟨_,rfl⟩;obtain⟨B,hB⟩:∃B,Z.kb n=B:=⟨_,rfl⟩;have c0:w1.cell? ⟨Z.z.kw i,0,none⟩=some (.pointer (some ⟨Z.z.mb,0,none⟩)):=(h1.kwc hi).1;have c8:w1.cell? ⟨Z.z.mb,8,none⟩=some (.pointer (some ⟨Z.z.lr,0,none⟩)):=h1.mc rfl;have HC1:Hid (Calls Tryz.prog 274 #[.pointer (some ⟨Z.z.lr,0,none⟩)] w1 fun e w'=>e=.returned (.tuple #[.agg #[.int .i64 n,.slice (some ⟨B,0,none⟩) K K],.bool true])/\Dn w0 c T w1 Z s w' Z {s with line:=r}):=by
  have hli:=h1.li;rw[hl,List.map_cons]at hli
  refine (GT.gtake_any (txR T Z.kb n) w1 hli).mono ?_;rintro e w'⟨rfl,k1,k2⟩;refine⟨?_,h1.setLi k2 k1 (GT.Mv.refl _ _) (Nat.le_refl _)⟩;rw[zyq,hB,hK];rfl
 have HC2:Hid (∀w2 W TB,Dn w0 c T w1 Z s w2 Z {s with line:=r}->Fr [] w2 W->w2.heap.size<=TB->B2x W TB (.int .i64 n) (.slice (some ⟨B,0,none⟩) K K)->Calls Tryz.prog 275 #[.pointer (some ⟨Z.z.la i,0,none⟩),.agg #[.int .i64 n,.slice (some ⟨B,0,none⟩) K K]] W fun e w'=>e=.returned (.int .i64 0)/\w'.cell? ⟨Z.z.kw i,2,none⟩=some (.pointer (some ⟨Z.z.la i,0,none⟩))/\w'.cell? ⟨TB,0,none⟩=some (.int .i64 n)/\w'.cell? ⟨TB,1,none⟩=some (.slice (some ⟨B,0,none⟩) K K)/\∃S',Dn w0 c T w1 Z s w' {Z with S:=upd Z.S i S'} {s with line:=r,ln:=upd s.ln i (some ⟨n,dd (wsAt T n),0⟩)}):=fun w2 W TB hD hf hTB hbx=>by
  have hM:=hD.m.quiet hf;have hoff:=hD.offNew hf hTB;have hre:=(hM.re n hnb.1 (by show n<=(Z.nr:Int);omega)).1;rw[hB]at hre
  have hla:=hM.la hi;have hla':LnM W (Z.z.la i) ((i+1:Nat):Int) c.l c.s c.w c.q none (Z.S i):=by rw[<-hn];exact hla
  refine (zsy n (some ⟨B,0,none⟩) K K (wsAt T n) hla' ⟨WRs.of_ok hok hre,hK.symm,by have:=hok.1;omega,by have:=hok.2.1;omega⟩ hok).mono ?_;rintro e w'⟨S',rfl,k1,k2,k3⟩;have hD3:=hM.setLa hi k3 (fun b hb _=>Or.inl (List.mem_singleton.1 hb)) k1 (fun b hb=>Or.inr (k2 b hb)) (Nat.le_refl _);have hD4:=(hD.trans (hD.m.dn hf)).trans hD3;have hb':=hD3.keep hbx hoff;exact⟨rfl,(hD4.kwc hi).2,by rw[crw hb'];rfl,by rw[crw hb'];rfl,S',hD4⟩
 have HE:Hid (∀W S',Dn w0 c T w1 Z s W {Z with S:=upd Z.S i S'} {s with line:=r,ln:=upd s.ln i (some ⟨n,dd (wsAt T n),0⟩)}->W.heap[A]? = some (.cells #[.int .i64 0,.int .u8 0,.int .i64 0,.int .i64 0,.int .i64 0,.int .i64 0] 40 (0,0))/\∀W',Fr [A] W W'->∃Z',Dn w0 c T w Z s W' Z' (zen T s i n r)/\Z'.nr=(zen T s i n r).d):=fun W S' hD=>by
  refine⟨(hBx.then hD).box,fun W' hf=> ?_⟩;exact⟨_,(hD.steps (k:=s.k+1) (Nat.le_succ _)).fin h hF1 (by rw[HA.out];exact Nat.le_refl _) hBx hf,hnr⟩
 have HKc:Hid (∀W,Dn w0 c T w1 Z s W Z {s with line:=r}->W.cell? ⟨Z.z.kw i,2,none⟩=some (.pointer (some ⟨Z.z.la i,0,none⟩))):=fun W hD=>(hD.kwc hi).2;clear h hnr hW hn hl hF1 hBx h1 hno hnb hdT hok hK hB;go_enter Tryz.func269,Tryz.ntmps269;go_upto_region 1 with fail
 rw[HW1.out,HA.out];clear HW1 HA;go_wp2_with fail
 refine Calls.mono HC1.out ?_;rintro e w2⟨rfl,hD2⟩;have HD2:Hid (Dn w0 c T w1 Z s w2 Z {s with line:=r}):=hD2;clear hD2 HC1 c0 c8;obtain⟨w3,HW3⟩:∃w3,Hid (w2.alloc (.cells #[.int .i64 n,.slice (some ⟨B,0,none⟩) K K] 54)=w3):=⟨_,rfl⟩;obtain⟨TB,HTB⟩:∃TB,Hid (w2.heap.size=TB):=⟨_,rfl⟩;have hF3:Fr [] w2 w3:=by rw[<-HW3.out];exact Fr.alloc _ _ _
 have hb3:B2x w3 TB (.int .i64 n) (.slice (some ⟨B,0,none⟩) K K):=by rw[<-HW3.out,<-HTB.out];exact heap_alloc_new _ _
 have c2:w3.cell? ⟨Z.z.kw i,2,none⟩=some (.pointer (some ⟨Z.z.la i,0,none⟩)):=HKc.out _ (HD2.out.trans (HD2.out.m.dn hF3));have t0:w3.cell? ⟨TB,0,none⟩=some (.int .i64 n):=by rw[crw hb3];rfl
 have t1:w3.cell? ⟨TB,1,none⟩=some (.slice (some ⟨B,0,none⟩) K K):=by rw[crw hb3];rfl
 have HF3:Hid (Fr [] w2 w3.drew):=hF3.then (Fr.drew _ _);have HB3:Hid (B2x w3.drew TB (.int .i64 n) (.slice (some ⟨B,0,none⟩) K K)):=(Fr.drew [] w3).keep hb3 (by simp);clear hF3 hb3 HKc;go_upto_region 4 with fail
 rw[HW3.out,HTB.out];have hTB:w2.heap.size<=TB:=by rw[HTB.out];exact Nat.le_refl _
 have HC3:Hid (Calls ..):=HC2.out w2 w3.drew TB HD2.out HF3.out hTB HB3.out;clear HW3 HTB HC2 HD2 HF3 HB3 hTB;go_region_held3 (fun W=>W.cell? ⟨Z.z.kw i,2,none⟩=some (.pointer (some ⟨Z.z.la i,0,none⟩))/\W.cell? ⟨TB,0,none⟩=some (.int .i64 n)/\W.cell? ⟨TB,1,none⟩=some (.slice (some ⟨B,0,none⟩) K K)) (go_keep)
  (first
   |(with_reducible refine Calls.mono HC3.out ?_;rintro e w5⟨rfl,y1,y2,y3,S',hD5⟩))
 have HD5:Hid _:=hD5;clear hD5 HC3;obtain⟨hb,hfin⟩:=HE.out w5 S' HD5.out;have HFin:Hid (∀W',_->_):=hfin;clear hfin HE HD5;go_wp2_with (first
  |(refine zag rfl _ _ rfl A 0 0 n 0 0 0 rfl rfl 0 0 0 0 0 0 hb ?_;intro w6 hw6 hf6;have HF6:Hid _:=HFin.out _ hf6;clear hf6)
  |fail)
 refine bodyPost_ret (zax rfl _ _ _ A _ rfl (zbr hw6.out)) rfl ?_;exact⟨rfl,HF6.out⟩
theorem zaae(h:MaM w0 w c T Z s)(hnr:Z.nr=s.d)(hW:Wf c T s){i:Nat}(hi:i<c.l.toNat){n:Int}(hn:s.ln i=some ⟨n,[],0⟩):Calls Tryz.prog 269 #[.pointer (some ⟨Z.z.kw i,0,none⟩),.int .u8 6] w fun e w'=>StP w0 c T w Z s n 0 0 (zfk s i n) e w':=by
 obtain⟨w1,HW1⟩:∃w1,Hid (w.alloc (.cells #[.int .i64 0,.int .u8 0,.int .i64 0,.int .i64 0,.int .i64 0,.int .i64 0] 40)=w1):=⟨_,rfl⟩;obtain⟨A,HA⟩:∃A,Hid (w.heap.size=A):=⟨_,rfl⟩;have hF1:Fr [] w w1:=by rw[<-HW1.out];exact Fr.alloc _ _ _
 have hBx:Bx w0 c T w1 Z s A:=by rw[<-HW1.out,<-HA.out];exact Bx.new h
 have h1:=h.quiet hF1;have hno:=(hW.lane i _ hi hn).1;have hnb:=hW.nd4 i _ hi hn;simp only at hno hnb;have hroom:s.pass.length<c.w.toNat:=by
  have:=zjl (l:=s.pass++[n]) (a:=s.ma) (q:=c.w) (by
   rw[List.nodup_append];refine⟨hW.nd2,by simp,fun a ha b hb e=> ?_⟩;rw[List.mem_singleton.1 hb]at e
   exact hnb.2 (e▸ha)) (fun x hx=>by
   rcases List.mem_append.1 hx with hx|hx
   .exact hW.near (hW.pass x hx).1
   rw[List.mem_singleton.1 hx];exact hW.near hno)
  rw[List.length_append]at this
  simp only[List.length_cons,List.length_nil]at this;omega
 have c2:w1.cell? ⟨Z.z.kw i,2,none⟩=some (.pointer (some ⟨Z.z.la i,0,none⟩)):=(h1.kwc hi).2.2;have HC1:Hid (Calls Tryz.prog 278 #[.pointer (some ⟨Z.z.la i,0,none⟩)] w1 fun e w'=>e=.returned (.tuple #[.int .i64 n,.int .i64 0])/\Dn w0 c T w1 Z s w' {Z with S:=upd Z.S i (Z.S i)} {s with ln:=upd s.ln i none}):=by
  have hla:=h1.la hi;rw[hn]at hla
  refine (zta hla).mono ?_;rintro e w'⟨rfl,k1,k2⟩;refine⟨by simp[zim,zin,zay,zjx],h1.setLa hi k2 (fun b hb _=>by simpa using hb) (by simpa[zio,zay]using k1) (fun b hb=>Or.inl hb) (Nat.le_refl _)⟩
 have HC2:Hid (∀W,Dn w0 c T w1 Z s W {Z with S:=upd Z.S i (Z.S i)} {s with ln:=upd s.ln i none}->W.cell? ⟨Z.z.kw i,0,none⟩=some (.pointer (some ⟨Z.z.mb,0,none⟩))/\W.cell? ⟨Z.z.mb,9,none⟩=some (.pointer (some ⟨Z.z.pr,0,none⟩))/\Calls Tryz.prog 279 #[.pointer (some ⟨Z.z.pr,0,none⟩),.int .i64 n] W fun e w'=>e=.returned (.bool true)/\w'.heap[A]? = some (.cells #[.int .i64 0,.int .u8 0,.int .i64 0,.int .i64 0,.int .i64 0,.int .i64 0] 40 (0,0))/\∀W',Fr [A] w' W'->∃Z',Dn w0 c T w Z s W' Z' (zfk s i n)/\Z'.nr=(zfk s i n).d):=fun W hD=>by
  refine⟨(hD.kwc hi).1,hD.mc rfl,(GI.gput_any n W hD.m.pa hroom).mono ?_⟩;rintro e w'⟨rfl,p',k1,k2,k3⟩;have hD2:=hD.trans (hD.m.setPa k2 k1 k3 (Nat.le_refl _));exact⟨rfl,(hBx.then hD2).box,fun W' hf=>⟨_,(hD2.steps (k:=s.k+1) (Nat.le_succ _)).fin h hF1 (by rw[HA.out];exact Nat.le_refl _) hBx hf,hnr⟩⟩
 clear h hnr hW hn hF1 hBx h1 hno hnb hroom;go_enter Tryz.func269,Tryz.ntmps269;go_upto_region 1 with fail
 rw[HW1.out,HA.out];clear HW1 HA;go_wp2_with fail
 refine Calls.mono HC1.out ?_;rintro e w2⟨rfl,hD2⟩;obtain⟨d0,d9,hC⟩:=HC2.out _ hD2;have HC:Hid (Calls ..):=hC;clear hD2 HC1 HC2 c2 hC;go_wp2_with fail
 refine Calls.mono HC.out ?_;rintro e w3⟨rfl,hb,hfin⟩;have HFin:Hid (∀W',_->_):=hfin;clear hfin HC;go_wp2_with (first
  |(refine zag rfl _ _ rfl A 0 0 n 0 0 0 rfl rfl 0 0 0 0 0 0 hb ?_;intro w6 hw6 hf6;have HF6:Hid _:=HFin.out _ hf6;clear hf6)
  |fail)
 refine bodyPost_ret (zax rfl _ _ _ A _ rfl (zbr hw6.out)) rfl ?_;exact⟨rfl,HF6.out⟩
end
section
variable{w0 w w':World}{c:Cf}{T:List Tx}{Z:Lay}{s:Ms}
theorem zaaf(h:MaM w0 w c T Z s)(hnr:Z.nr=s.d)(hW:Wf c T s){i:Nat}(hi:i<c.l.toNat){n:Int}{y:Wt}{r:List Wt}{ou:Nat}(hn:s.ln i=some ⟨n,y::r,ou⟩)(hsh:((shW c y:Nat):Int)=(Cf.shard c y.key).1/\shW c y<c.s.toNat)(hq:((s.qs (shW c y)).length:Int)<c.q)(hy:okW y)(hn1:1<=n/\n<=65536):Calls Tryz.prog 269 #[.pointer (some ⟨Z.z.kw i,0,none⟩),.int .u8 5] w fun e w'=>StP w0 c T w Z s n (shW c y:Int) 0 (zbq c s i ⟨n,y::r,ou⟩ y r) e w':=by
 obtain⟨w1,HW1⟩:∃w1,Hid (w.alloc (.cells #[.int .i64 0,.int .u8 0,.int .i64 0,.int .i64 0,.int .i64 0,.int .i64 0] 40)=w1):=⟨_,rfl⟩;obtain⟨A,HA⟩:∃A,Hid (w.heap.size=A):=⟨_,rfl⟩;have hF1:Fr [] w w1:=by rw[<-HW1.out];exact Fr.alloc _ _ _
 have hBx:Bx w0 c T w1 Z s A:=by rw[<-HW1.out,<-HA.out];exact Bx.new h
 have h1:=h.quiet hF1;have hl16:=h.may.1;have c2:w1.cell? ⟨Z.z.kw i,2,none⟩=some (.pointer (some ⟨Z.z.la i,0,none⟩)):=(h1.kwc hi).2.2;obtain⟨I1,hI1⟩:∃I1:Int,((i+1:Nat):Int)=I1:=⟨_,rfl⟩;obtain⟨J,hJ⟩:∃J,shW c y=J:=⟨_,rfl⟩;have hI16:1<=I1/\I1<=16:=by omega
 have HC1:Hid (Calls Tryz.prog 270 #[.pointer (some ⟨Z.z.la i,0,none⟩)] w1 fun e w'=>e=.returned (.tuple #[.int .i64 (J:Int),.agg #[.int .u8 1,.int .i64 I1,.int .i64 n,.string y.key,.string y.val,.bool y.drop,.string ⟨#[]⟩,.string ⟨#[]⟩,.slice none 0 0],.bool true])/\Dn w0 c T w1 Z s w' Z s):=by
  have hla:=h1.la hi;rw[hn]at hla
  refine (zcq hla).mono ?_;rintro e w'⟨rfl,hf⟩;refine⟨?_,h1.dn hf⟩;simp only[zfm,zfn,zfo,Rq.v];rw[<-hJ,hsh.1,hI1]
 have HC2:Hid (∀w2 W TB,Dn w0 c T w1 Z s w2 Z s->Fr [] w2 W->w2.heap.size<=TB->W.heap[TB]? = some (.cells #[.int .u8 1,.int .i64 I1,.int .i64 n,.string y.key,.string y.val,.bool y.drop,.string ⟨#[]⟩,.string ⟨#[]⟩,.slice none 0 0] 310 (0,0))->Calls Tryz.prog 276 #[.pointer (some ⟨Z.z.ob J,0,none⟩),.agg #[.int .u8 1,.int .i64 I1,.int .i64 n,.string y.key,.string y.val,.bool y.drop,.string ⟨#[]⟩,.string ⟨#[]⟩,.slice none 0 0]] W fun e w'=>e=.returned (.tuple #[.bool true,.int .i64 0])/\w'.heap[TB]? = some (.cells #[.int .u8 1,.int .i64 I1,.int .i64 n,.string y.key,.string y.val,.bool y.drop,.string ⟨#[]⟩,.string ⟨#[]⟩,.slice none 0 0] 310 (0,0))/\w'.cell? ⟨Z.z.kw i,0,none⟩=some (.pointer (some ⟨Z.z.mb,0,none⟩))/\w'.cell? ⟨Z.z.kw i,2,none⟩=some (.pointer (some ⟨Z.z.la i,0,none⟩))/\w'.cell? ⟨Z.z.mb,11,none⟩=some (.slice (some ⟨Z.z.osB,0,none⟩) c.s.toNat Z.z.osC)/\w'.cell? ⟨Z.z.osB,J,none⟩=some (.pointer (some ⟨Z.z.ob J,0,none⟩))/\Hid (Calls Tryz.prog 277 #[.pointer (some ⟨Z.z.la i,0,none⟩)] w' fun e w2=>e=.returned (.int .i64 0)/\w2.heap[TB]? = some (.cells #[.int .u8 1,.int .i64 I1,.int .i64 n,.string y.key,.string y.val,.bool y.drop,.string ⟨#[]⟩,.string ⟨#[]⟩,.slice none 0 0] 310 (0,0))/\w2.heap[A]? = some (.cells #[.int .i64 0,.int .u8 0,.int .i64 0,.int .i64 0,.int .i64 0,.int .i64 0] 40 (0,0))/\∀W',Fr [A] w2 W'->∃Z',Dn w0 c T w Z s W' Z' (zbq c s i ⟨n,y::r,ou⟩ y r)/\Z'.nr=(zbq c s i ⟨n,y::r,ou⟩ y r).d)):=fun w2 W TB hD hf hTB hbx=>by
  have hM:=hD.m.quiet hf;have hoff:=hD.offNew hf hTB;rw[hJ]at hq hsh
  refine (zwn hM hsh.2 I1 n y hI16 hn1 hy hq).mono ?_;rintro e w'⟨rfl,Z1,hD3,hnr1⟩;have hD4:=(hD.trans (hD.m.dn hf)).trans hD3;have hb':=hD3.keep hbx hoff;have hoff':=hD3.off (lt_of_block hbx) hoff;refine⟨rfl,hb',(hD4.kwc hi).1,(hD4.kwc hi).2,hD4.mc rfl,by have:=hD4.m.osc hsh.2;rw[hD4.z]at this;exact this,?_⟩;have hla:=hD4.m.la hi;rw[show ({s with qs:=upd s.qs J (s.qs J++[⟨I1,n,y⟩])}:Ms).ln i=some ⟨n,y::r,ou⟩ from hn,hD4.z]at hla
  refine Calls.mono (zsz hla) ?_;rintro e w2'⟨rfl,k1,k2⟩;have hD5:=hD4.m.setLa hi k2 (fun b hb _=>by rw[hD4.z];simpa using hb) (by rw[hD4.z];exact k1) (fun b hb=>Or.inl hb) (Nat.le_refl _);have hD6:=hD4.trans hD5;refine⟨rfl,hD5.keep hb' hoff',(hBx.then hD6).box,fun W' hf'=>⟨{Z1 with S:=upd Z1.S i (Z1.S i)},?_,hnr1.trans hnr⟩⟩;have hD7:=(hD6.steps (k:=s.k+1) (Nat.le_succ _)).fin h hF1 (by rw[HA.out];exact Nat.le_refl _) hBx hf';have e:zbq c s i ⟨n,y::r,ou⟩ y r={s with qs:=upd s.qs J (s.qs J++[⟨I1,n,y⟩]),ln:=upd s.ln i (some ⟨n,r,ou+1⟩),k:=s.k+1}:=by unfold zbq;rw[hJ,hI1]
  rw[e];exact hD7
 have HKc:Hid (∀W,Dn w0 c T w1 Z s W Z s->W.cell? ⟨Z.z.kw i,0,none⟩=some (.pointer (some ⟨Z.z.mb,0,none⟩))/\W.cell? ⟨Z.z.mb,11,none⟩=some (.slice (some ⟨Z.z.osB,0,none⟩) c.s.toNat Z.z.osC)/\W.cell? ⟨Z.z.osB,J,none⟩=some (.pointer (some ⟨Z.z.ob J,0,none⟩))):=fun W hD=>⟨(hD.kwc hi).1,hD.mc rfl,hD.m.osc (by rw[<-hJ];exact hsh.2)⟩;have hJS:=hsh.2;rw[hJ]at hJS ⊢
 obtain⟨SN,hSN⟩:∃SN,c.s.toNat=SN:=⟨_,rfl⟩;rw[hSN]at HC2 HKc hJS
 clear h hnr hW hn hF1 hBx h1 hsh hq hy hn1 hl16 hI1 hJ hI16 hSN;go_enter Tryz.func269,Tryz.ntmps269;go_upto_region 1 with fail
 rw[HW1.out,HA.out];clear HW1 HA;go_wp2_with fail
 refine Calls.mono HC1.out ?_;rintro e w2⟨rfl,hD2⟩;have HD2:Hid (Dn w0 c T w1 Z s w2 Z s):=hD2;clear hD2 HC1 c2;obtain⟨w3,HW3⟩:∃w3,Hid (w2.alloc (.cells #[.int .u8 1,.int .i64 I1,.int .i64 n,.string y.key,.string y.val,.bool y.drop,.string ⟨#[]⟩,.string ⟨#[]⟩,.slice none 0 0] 310)=w3):=⟨_,rfl⟩;obtain⟨TB,HTB⟩:∃TB,Hid (w2.heap.size=TB):=⟨_,rfl⟩;have hF3:Fr [] w2 w3:=by rw[<-HW3.out];exact Fr.alloc _ _ _
 have hb3:w3.heap[TB]? = some (.cells #[.int .u8 1,.int .i64 I1,.int .i64 n,.string y.key,.string y.val,.bool y.drop,.string ⟨#[]⟩,.string ⟨#[]⟩,.slice none 0 0] 310 (0,0)):=by rw[<-HW3.out,<-HTB.out];exact heap_alloc_new _ _
 obtain⟨d0,d11,dJ⟩:=HKc.out _ (HD2.out.trans (HD2.out.m.dn hF3));have HRc:Hid (∀W:World,W.heap[TB]? = some (.cells #[.int .u8 1,.int .i64 I1,.int .i64 n,.string y.key,.string y.val,.bool y.drop,.string ⟨#[]⟩,.string ⟨#[]⟩,.slice none 0 0] 310 (0,0))->W.cell? ⟨TB,0,none⟩=some (.int .u8 1)/\W.cell? ⟨TB,1,none⟩=some (.int .i64 I1)/\W.cell? ⟨TB,2,none⟩=some (.int .i64 n)/\W.cell? ⟨TB,3,none⟩=some (.string y.key)/\W.cell? ⟨TB,4,none⟩=some (.string y.val)/\W.cell? ⟨TB,5,none⟩=some (.bool y.drop)/\W.cell? ⟨TB,6,none⟩=some (.string ⟨#[]⟩)/\W.cell? ⟨TB,7,none⟩=some (.string ⟨#[]⟩)/\W.cell? ⟨TB,8,none⟩=some (.slice none 0 0)):=fun W hb=>by
  refine⟨?_,?_,?_,?_,?_,?_,?_,?_,?_⟩<;>(rw[crw hb];rfl)
 obtain⟨q0,q1,q2,q3,q4,q5,q6,q7,q8⟩:=HRc.out _ hb3;have HF3:Hid (Fr [] w2 w3.drew):=hF3.then (Fr.drew _ _);have HB3:Hid (w3.drew.heap[TB]? = _):=(Fr.drew [] w3).keep hb3 (by simp);clear hF3 hb3 HKc;go_upto_region 8 with fail
 rw[HW3.out,HTB.out];have hTB:w2.heap.size<=TB:=by rw[HTB.out];exact Nat.le_refl _
 have HC3:Hid (Calls ..):=HC2.out w2 w3.drew TB HD2.out HF3.out hTB HB3.out;clear HW3 HTB HC2 HD2 HF3 HB3 hTB;go_region_held3 (fun W=>W.cell? ⟨Z.z.kw i,0,none⟩=some (.pointer (some ⟨Z.z.mb,0,none⟩))/\W.cell? ⟨Z.z.mb,11,none⟩=some (.slice (some ⟨Z.z.osB,0,none⟩) SN Z.z.osC)/\W.cell? ⟨Z.z.osB,J,none⟩=some (.pointer (some ⟨Z.z.ob J,0,none⟩))/\W.cell? ⟨TB,0,none⟩=some (.int .u8 1)/\W.cell? ⟨TB,1,none⟩=some (.int .i64 I1)/\W.cell? ⟨TB,2,none⟩=some (.int .i64 n)/\W.cell? ⟨TB,3,none⟩=some (.string y.key)/\W.cell? ⟨TB,4,none⟩=some (.string y.val)/\W.cell? ⟨TB,5,none⟩=some (.bool y.drop)/\W.cell? ⟨TB,6,none⟩=some (.string ⟨#[]⟩)/\W.cell? ⟨TB,7,none⟩=some (.string ⟨#[]⟩)/\W.cell? ⟨TB,8,none⟩=some (.slice none 0 0)) (go_keep)
  (first
   |(with_reducible refine Calls.mono HC3.out ?_;rintro e w5⟨rfl,hb5,z0,z2,z11,zJ,HS5⟩;obtain⟨p0,p1,p2,p3,p4,p5,p6,p7,p8⟩:=HRc.out _ hb5))
 clear HC3 hb5 d0 d11 dJ q0 q1 q2 q3 q4 q5 q6 q7 q8;go_wp2_with fail
 refine Calls.mono HS5.out ?_;rintro e w6⟨rfl,hb6,hb,hfin⟩;have HFin:Hid (∀W',_->_):=hfin;obtain⟨_,_,p2,_⟩:=HRc.out _ hb6;clear hfin HS5 hb6 HRc;go_wp2_with (first
  |(refine zag rfl _ _ rfl A 0 0 n (J:Int) 0 0 rfl rfl 0 0 0 0 0 0 hb ?_;intro w7 hw6 hf6;have HF6:Hid _:=HFin.out _ hf6;clear hf6)
  |fail)
 refine bodyPost_ret (zax rfl _ _ _ A _ rfl (zbr hw6.out)) rfl ?_;exact⟨rfl,HF6.out⟩
end
section
variable{w0 w w':World}{c:Cf}{T:List Tx}{Z:Lay}{s:Ms}
def gst(T:List Tx)(s:Ms)(n:Int)(r zs:List Int)(i:Nat):Ms:={s with pass:=r,ma:=(gdx s.ma s.bx n).2.1,bx:=(gdx s.ma s.bx n).2.2,en:=fun x=>s.en x\/x=n,wt:=fun m=>s.wt m/\m∉zs.take i,line:=s.line++zs.take i}
theorem znr(T:List Tx)(s:Ms)(n:Int)(r zs:List Int):gst T s n r zs 0={s with pass:=r,ma:=(gdx s.ma s.bx n).2.1,bx:=(gdx s.ma s.bx n).2.2,en:=fun x=>s.en x\/x=n}:=by
 unfold gst
 congr 1
 .funext m;simp
 simp
theorem zwz(T:List Tx)(s:Ms)(n:Int)(r zs:List Int)(i:Nat)(hi:i<zs.length):gst T s n r zs (i+1)={ (gst T s n r zs i) with line:=(gst T s n r zs i).line++[zs.getD i 0],wt:=fun m=>(gst T s n r zs i).wt m/\m≠zs.getD i 0}:=by
 have e:zs.take (i+1)=zs.take i++[zs.getD i 0]:=by rw[List.take_add_one];simp[List.getD,hi]
 unfold gst;rw[e]
 congr 1
 .funext m
  simp only[List.mem_append,List.mem_singleton,not_or,and_assoc]
 simp
theorem zaag(T:List Tx)(s:Ms)(n:Int)(r zs:List Int)(hz:frx (lgT T s.d) s.en n=zs):{ (gst T s n r zs zs.length) with k:=s.k+1}=zby T s n r:=by
 unfold gst zby;rw[hz,List.take_length]
def GL(w0:World)(c:Cf)(T:List Tx)(w1:World)(Z:Lay)(s:Ms)(n:Int)(r zs:List Int)(B:Nat)(so:Option Addr)(cc:Nat)(i:Nat)(W:World):Prop:=
 ∃Z',Dn w0 c T w1 Z s W Z' (gst T s n r zs i)/\Z'.nr=Z.nr/\IOw B W so zs.length cc zs/\∀k,(Value.slice so zs.length cc).ownBlock=some k->MaM.off w0 W c T Z' (gst T s n r zs i) k
theorem GL.next{w1 W:World}{n:Int}{r zs:List Int}{B cc i:Nat}{so:Option Addr}(h:GL w0 c T w1 Z s n r zs B so cc i W)(hi:i<zs.length)(hw:∀m∈zs,s.wt m/\i64 m)(hnd:Ris zs)(hroom:(s.line++zs).length<=c.w.toNat) :
  Calls Tryz.prog 257 #[.pointer (some ⟨Z.z.mb,0,none⟩),.int .i64 (zs.getD i 0)] W fun e w'=>(∃v,e=.returned v)/\GL w0 c T w1 Z s n r zs B so cc (i+1) w':=by
 obtain⟨Z',hD,hnr,hI,hO⟩:=h;have hm:=List.getElem_mem hi;have hg:zs.getD i 0=zs[i]:=by simp[List.getD,hi]
 have hwi:=hw _ hm;rw[<-hg]at hwi hm
 have hwt:(gst T s n r zs i).wt (zs.getD i 0):=⟨hwi.1,zmh zs hnd i hi⟩;have hrm:(gst T s n r zs i).line.length<c.w.toNat:=by
  show (s.line++zs.take i).length<_;rw[List.length_append,List.length_take];rw[List.length_append]at hroom
  omega
 have hf:=zlm hD.m hwi.2 hwt hrm;rw[hD.z]at hf
 refine hf.mono ?_;rintro e w'⟨hv,p',hD2⟩;rw[<-zwz T s n r zs i hi]at hD2
 obtain⟨S,sf,sS⟩:=hD2.x.fr;have hlt:∀k,(Value.slice so zs.length cc).ownBlock=some k->k<W.heap.size:=fun k hk=>by
  obtain⟨_,cur,e⟩:=hI.blk hk;exact lt_of_block e
 refine⟨hv,_,hD.trans hD2,hnr,hI.keepS sf (fun k hk hm=> ?_),fun k hk=>hD2.off (hlt k hk) (hO k hk)⟩;obtain⟨j,hj⟩:=sS k hm (hlt k hk);exact hO k hk j hj
theorem zaah(h:MaM w0 w c T Z s)(hnr:Z.nr=s.d)(hW:Wf c T s){n:Int}{r:List Int}(hp:s.pass=n::r):Calls Tryz.prog 354 #[.pointer (some ⟨Z.z.kg,0,none⟩),.int .u8 8] w fun e w'=>StP w0 c T w Z s n 0 (gdx s.ma s.bx n).1 (zby T s n r) e w':=by
 obtain⟨w1,HW1⟩:∃w1,Hid (w.alloc (.cells #[.int .i64 0,.int .u8 0,.int .i64 0,.int .i64 0,.int .i64 0,.int .i64 0] 40)=w1):=⟨_,rfl⟩;obtain⟨A,HA⟩:∃A,Hid (w.heap.size=A):=⟨_,rfl⟩;have hF1:Fr [] w w1:=by rw[<-HW1.out];exact Fr.alloc _ _ _
 have hBx:Bx w0 c T w1 Z s A:=by rw[<-HW1.out,<-HA.out];exact Bx.new h
 have h1:=h.quiet hF1;have hnp:n∈s.pass:=by rw[hp];simp
 have hno:=(hW.pass n hnp).1;have hnb:=hW.op.1 hno;have hdT:=hW.dT;have hT6:(T.length:Int)<=65536:=by have:=zge hW.ok;omega
 have hfresh:¬(n<=s.ma\/n∈s.bx):=fun e=>hnb.2 ((hW.en n).2 ⟨hnb.1.1,e⟩);have hfree:=hW.free hno (hW.pass n hnp).2;have hgd:GDo s.ma s.bx n (gdx s.ma s.bx n).1 0 (gdx s.ma s.bx n).2.1 (gdx s.ma s.bx n).2.2:=⟨by have:=zmj _ _ (hW.gok.1.ins hnb.1.1 (by omega) hfresh);exact⟨this.1,this.2.1⟩,Or.inr ⟨⟨hnb.1.1,by omega,hfresh⟩,rfl,rfl,rfl⟩⟩;have kc:∀W Z' s',Dn w0 c T w1 Z s W Z' s'->W.cell? ⟨Z.z.kg,0,none⟩=some (.pointer (some ⟨Z.z.mb,0,none⟩)):=fun W Z' s' hD=>by have:=hD.m.kgc.1;rw[hD.z]at this;exact this
 have mc:∀W Z' s',Dn w0 c T w1 Z s W Z' s'->∀j v,(mC c Z.z)[j]? = some v->W.cell? ⟨Z.z.mb,j,none⟩=some v:=fun W Z' s' hD j v hv=>by
  have:=hD.m.mc (j:=j) (v:=v) (by rw[hD.z];exact hv);rw[hD.z]at this
  exact this
 have HKc:Hid _:=kc;have HMc:Hid _:=mc;have c0:w1.cell? ⟨Z.z.kg,0,none⟩=some (.pointer (some ⟨Z.z.mb,0,none⟩)):=h1.kgc.1;have c9:w1.cell? ⟨Z.z.mb,9,none⟩=some (.pointer (some ⟨Z.z.pr,0,none⟩)):=h1.mc rfl;have HC1:Hid (Calls Tryz.prog 356 #[.pointer (some ⟨Z.z.pr,0,none⟩)] w1 fun e w'=>e=.returned (.tuple #[.int .i64 n,.bool true])/\Dn w0 c T w1 Z s w' Z {s with pass:=r}):=by
  have hpa:=h1.pa;rw[hp]at hpa
  refine (GI.gtake_any n w1 hpa).mono ?_;rintro e w'⟨rfl,k1,k2⟩;exact⟨rfl,h1.setPa k2 k1 (GI.Mv.refl _ _) (Nat.le_refl _)⟩
 have HC2:Hid (∀W,Dn w0 c T w1 Z s W Z {s with pass:=r}->Calls Tryz.prog 357 #[.pointer (some ⟨Z.z.gb,0,none⟩),.int .i64 n] W fun e w'=>e=.returned (.tuple #[.int .i64 (gdx s.ma s.bx n).1,.int .i64 0])/\Dn w0 c T w1 Z s w' Z {s with pass:=r,ma:=(gdx s.ma s.bx n).2.1,bx:=(gdx s.ma s.bx n).2.2}):=fun W hD=>by
  refine (zyy hD.m.ga hgd).mono ?_;rintro e w'⟨rfl,k1,k2⟩;exact⟨rfl,hD.trans (hD.m.setGa k2 k1 (Nat.le_refl _))⟩
 have hroomF:∀zs,DoT (lgT T s.d) (Op11 (lgT T s.d) s.en) n zs->(s.line++zs).length<=c.w.toNat:=fun zs hz=>by
  have hwg:=hW.gate hp hz;have hl:(zby T s n r).line=s.line++zs:=by show s.line++frx (lgT T s.d) s.en n=_;rw[zkd hz]
  rw[<-hl];exact zjl (a:=(zby T s n r).ma) hwg.nd1 (fun x hx=>hwg.near (hwg.line x hx).1)
 have HC3:Hid (∀W,Dn w0 c T w1 Z s W Z {s with pass:=r,ma:=(gdx s.ma s.bx n).2.1,bx:=(gdx s.ma s.bx n).2.2}->Calls Tryz.prog 358 #[.pointer (some ⟨Z.z.tb,0,none⟩),.int .i64 n] W fun e w'=>∃so cc zs,e=.returned (.tuple #[.slice so zs.length cc,.int .i64 0])/\zs.length<=64/\DoT (lgT T s.d) (Op11 (lgT T s.d) s.en) n zs/\GL w0 c T w1 Z s n r zs W.heap.size so cc 0 w'):=fun W hD=>by
  refine (zyw n W hD.m.de hno hfree).mono ?_;rintro e w'⟨so,N,cc,zs,rfl,k1,k2,k3,k4⟩;obtain rfl:=k1.len;have hS:∀b∈Z.B,b<W.heap.size->b∈Z.B:=fun b hb _=>hb;have hD2:=hD.m.setDe k4 hS k3 (fun b hb=>Or.inl hb) hD.m.few.1 (Nat.le_refl _) (by show s.d<=Z.nr;omega);refine⟨so,cc,zs,rfl,by have:=hroomF zs k2;have:=hW.may.2.2.1;rw[List.length_append]at *;omega,k2,Z,?_,rfl,k1,fun k hk=> ?_⟩
  .rw[znr];exact hD.trans hD2
  rw[znr];exact hD.m.offDe k4 hS (k1.blk hk).1
 have HE:Hid (∀zs B so cc W,DoT (lgT T s.d) (Op11 (lgT T s.d) s.en) n zs->GL w0 c T w1 Z s n r zs B so cc zs.length W->W.heap[A]? = some (.cells #[.int .i64 0,.int .u8 0,.int .i64 0,.int .i64 0,.int .i64 0,.int .i64 0] 40 (0,0))/\∀W',Fr [A] W W'->∃Z',Dn w0 c T w Z s W' Z' (zby T s n r)/\Z'.nr=(zby T s n r).d):=fun zs B so cc W hz hG=>by
  obtain⟨Z',hD,hn',_,_⟩:=hG;refine⟨(hBx.then hD).box,fun W' hf=> ?_⟩;have hD':Dn w0 c T w1 Z s W Z' (zby T s n r):=by
   rw[<-zaag T s n r zs (zkd hz)];exact⟨hD.m.steps (Nat.le_succ _),by
    have e:mP w0 c T Z' { (gst T s n r zs zs.length) with k:=s.k+1}=mP w0 c T Z' (gst T s n r zs zs.length):=by funext i;cases i<;>rfl
    rw[e];exact hD.x,hD.z,hD.y⟩
  exact⟨Z',hD'.fin h hF1 (by rw[HA.out];exact Nat.le_refl _) hBx hf,by rw[hn',hnr];rfl⟩
 have HRd:Hid (∀zs B so cc i W,DoT (lgT T s.d) (Op11 (lgT T s.d) s.en) n zs->GL w0 c T w1 Z s n r zs B so cc i W->i<zs.length->(∃g,so=some ⟨g,0,none⟩/\W.cell? ⟨g,i,none⟩=some (.int .i64 (zs.getD i 0)))/\W.cell? ⟨Z.z.kg,0,none⟩=some (.pointer (some ⟨Z.z.mb,0,none⟩))/\Calls Tryz.prog 257 #[.pointer (some ⟨Z.z.mb,0,none⟩),.int .i64 (zs.getD i 0)] W fun e w'=>(∃v,e=.returned v)/\GL w0 c T w1 Z s n r zs B so cc (i+1) w'):=fun zs B so cc i W hz hG hi=>by
  have hzw:∀m∈zs,s.wt m/\i64 m:=fun m hm=>by
   obtain⟨a1,a2,_⟩:=(hz.2 m).1 hm;have:=(hW.op.1 a1).1;exact⟨(hW.wait m).2 ⟨a1,n,hno,a2⟩,by unfold i64;omega⟩
  have hroom:=hroomF zs hz;refine⟨?_,?_,hG.next hi hzw hz.1 hroom⟩
  .obtain⟨Z',_,_,hI,_⟩:=hG;obtain⟨g,e,_,hc⟩:=hI.at i hi;exact⟨g,e,hc⟩
  obtain⟨Z',hD,_⟩:=hG;exact kc _ _ _ hD
 clear hroomF h hnr hW hp hF1 hBx h1 hnp hno hnb hdT hT6 hfresh hfree hgd kc mc;generalize (gdx s.ma s.bx n).1=up at HC2 ⊢;go_enter Tryz.func354,Tryz.ntmps354;go_upto_region 1 with fail
 rw[HW1.out,HA.out];clear HW1 HA;go_wp2_with fail
 refine Calls.mono HC1.out ?_;rintro e w2⟨rfl,hD2⟩;have HD2:Hid (Dn w0 c T w1 Z s w2 Z {s with pass:=r}):=hD2;have c0:=HKc.out _ _ _ HD2.out;have c12:=HMc.out _ _ _ HD2.out 12 _ rfl;clear hD2 c9 HC1;go_wp2_with fail
 refine Calls.mono (HC2.out _ HD2.out) ?_;rintro e w3⟨rfl,hD3⟩;have HD3:Hid _:=hD3;have c0:=HKc.out _ _ _ HD3.out;have c6:=HMc.out _ _ _ HD3.out 6 _ rfl;clear hD3 c12 HC2 HD2;go_wp2_with fail
 refine Calls.mono (HC3.out _ HD3.out) ?_;rintro e w4⟨so,cc,zs,rfl,hNb,hz,hG⟩;have HZ:Hid (DoT _ _ _ _):=hz;have HG:Hid (GL w0 c T w1 Z s n r zs w3.heap.size so cc 0 w4):=hG;obtain⟨N,hN⟩:∃N,zs.length=N:=⟨_,rfl⟩;obtain⟨B,hB⟩:∃B,w3.heap.size=B:=⟨_,rfl⟩;have HN:Hid (zs.length=N):=hN;rw[hB]at HG
 rw[hN]at hNb ⊢
 clear hz hG c0 c6 HC3 HD3 hN hB;go_wp2_with fail
 go_loopw [53] (fun ii wr=>∃i:Nat,ii=.int .i64 i/\i<=N/\Hid (GL w0 c T w1 Z s n r zs B so cc i wr)) (fun ii _=>N-(RowKit.intOf ii).toNat)
 case atStart=>exact⟨0,rfl,Nat.zero_le _,HG⟩
 obtain⟨i,rfl,hiN,HGi⟩:=hrel;by_cases hi:i<N
 .obtain⟨⟨g,rfl,hg⟩,k0,hC⟩:=HRd.out zs B so cc i wr HZ.out HGi.out (by rw[HN.out];exact hi);have HC:Hid (Calls ..):=hC;clear hC HGi;obtain⟨x,hx⟩:∃x,zs.getD i 0=x:=⟨_,rfl⟩;rw[hx]at hg HC
  clear hx;go_wp2_with fail
  refine Calls.mono HC.out ?_;rintro e w5⟨⟨v,rfl⟩,hG5⟩;have HG5:Hid (GL w0 c T w1 Z s n r zs B (some ⟨g,0,none⟩) cc (i+1) w5):=hG5;clear hG5 hg k0;go_wp2;go_roundw;case rel=>exact⟨i+1,rfl,by omega,HG5⟩
  case measure=>simp[RowKit.intOf];omega
 obtain rfl:i=N:=by omega
 obtain⟨hb,hfin⟩:=HE.out zs B so cc wr HZ.out (by rw[HN.out];exact HGi.out);have HFin:Hid (∀W',_->_):=hfin;clear hfin HGi;go_wp2_with (first
  |(refine zag rfl _ _ rfl A 0 0 n 0 up 0 rfl rfl 0 0 0 0 0 0 hb ?_;intro w6 hw6 hf6;have HF6:Hid _:=HFin.out _ hf6;clear hf6)
  |fail)
 refine bodyPost_ret (zax rfl _ _ _ A _ rfl (zbr hw6.out)) rfl ?_;exact⟨rfl,HF6.out⟩
end
end Go.Proofs.YtaigdcmoecgabaaGreat
