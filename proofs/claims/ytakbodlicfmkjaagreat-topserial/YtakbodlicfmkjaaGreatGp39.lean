/- Contracts and lemmas. -/
import Derived.Test.YtakbodlicfmkjaaGreatGp35
set_option maxHeartbeats 4000000
set_option maxRecDepth 100000
set_option linter.unusedSimpArgs false
set_option linter.unusedVariables false
namespace Go.Proofs.YtakbodlicfmkjaaGreat
open Go.ChangeShapes Go.WideShapes Go.ChangeAt Go.RowKit Go.Lib Go.Maps
section
variable{w0 w w':World}{c:Cf}{T:List Tx}{Z:Lay}{s:Ms}
theorem zaab(T:List Tx)(kb:Int->Nat)(wt:Int->Prop)(n:Int):updF (wtF T kb wt) n none=wtF T kb (fun m=>wt m/\m≠n):=by
 funext m
 by_cases e:m=n
 .subst e;rw[zad];unfold wtF;rw[if_neg (fun x=>x.2 rfl)]
 rw[zab _ _ e];unfold wtF;by_cases hm:wt m
 .rw[if_pos hm,if_pos ⟨hm,e⟩]
 rw[if_neg hm,if_neg (fun x=>hm x.1)]
theorem zabh(T:List Tx)(kb:Int->Nat)(n:Int):(txR T kb n).v=tx3V (some (n,kb n,(wsAt T n).length)):=rfl
def zlt(w0:World)(c:Cf)(T:List Tx)(w:World)(Z:Lay)(s:Ms)(n:Int)(w':World):Prop:=∃p',Dn w0 c T w Z s w' {Z with lp:=p'} {s with line:=s.line++[n],wt:=fun m=>s.wt m/\m≠n}
theorem znd(h:MaM w0 w c T Z s){n:Int}(hi:i64 n)(hn:s.wt n)(hroom:s.line.length<c.w.toNat):Calls Tryz.prog 258 #[.pointer (some ⟨Z.z.mb,0,none⟩),.int .i64 n] w fun e w'=>(∃v,e=.returned v)/\zlt w0 c T w Z s n w':=by
 have c7:∀q,(w.drewN q).cell? ⟨Z.z.mb,7,none⟩=some (.map (some Z.z.wb)):=fun q=>h.mc rfl;have c8:w.cell? ⟨Z.z.mb,8,none⟩=some (.pointer (some ⟨Z.z.lr,0,none⟩)):=h.mc rfl;have c70:w.cell? ⟨Z.z.mb,7,none⟩=some (.map (some Z.z.wb)):=h.mc rfl;obtain⟨K,hK⟩:∃K,(wsAt T n).length=K:=⟨_,rfl⟩;obtain⟨B,hB⟩:∃B,Z.kb n=B:=⟨_,rfl⟩;have hF:wtF T Z.kb s.wt n=some (some (n,B,K)):=by unfold wtF;rw[if_pos hn,hB,hK]
 have hlk:∀W,Fr [] w W->(Instr.lookup 67 (.map (some Z.z.wb)) (.int .i64 n) false).run Tryz.prog W=.ok (.agg #[.int .i64 n,.slice (some ⟨B,0,none⟩) K K]) W:=fun W hf=>by
  have:=(h.quiet hf).wa.look n hi;rw[hF]at this
  exact this
 have hlkw:=hlk w (Fr.refl _ _);have hlkd:∀q,(Instr.lookup 67 (.map (some Z.z.wb)) (.int .i64 n) false).run Tryz.prog (w.drewN q)=.ok (.agg #[.int .i64 n,.slice (some ⟨B,0,none⟩) K K]) (w.drewN q):=fun q=>hlk _ (Fr.drewN _ _ _);have hlk1:(Instr.lookup 67 (.map (some Z.z.wb)) (.int .i64 n) false).run Tryz.prog w.drew=.ok (.agg #[.int .i64 n,.slice (some ⟨B,0,none⟩) K K]) w.drew:=hlk _ (Fr.drew _ _);have HP:Hid (∀W,Fr [] w W->Calls Tryz.prog 260 #[.pointer (some ⟨Z.z.lr,0,none⟩),.agg #[.int .i64 n,.slice (some ⟨B,0,none⟩) K K]] W fun e w'=>e=.returned (.bool true)/\w'.cell? ⟨Z.z.mb,7,none⟩=some (.map (some Z.z.wb))/\w'.cell? ⟨Z.z.mb,8,none⟩=some (.pointer (some ⟨Z.z.lr,0,none⟩))/\(Instr.lookup 67 (.map (some Z.z.wb)) (.int .i64 n) false).run Tryz.prog w'=.ok (.agg #[.int .i64 n,.slice (some ⟨B,0,none⟩) K K]) w'/\(∃w2,(Builtin.delete_ #[67,3] 0 #[.map (some Z.z.wb),.int .i64 n]).run Tryz.prog w'=.ok (.tuple #[]) w2/\zlt w0 c T w Z s n w2)):=fun W hf=>by
  have hW:=h.quiet hf;have hx:(txR T Z.kb n).v=.agg #[.int .i64 n,.slice (some ⟨B,0,none⟩) K K]:=by rw[zabh,hB,hK];rfl
  refine Calls.mono (by rw[<-hx];exact GT.gput_any (txR T Z.kb n) W hW.li (by rw[List.length_map];exact hroom)) ?_;rintro e w1⟨rfl,p',h1,h2,h3⟩;have h1':GT.Rg w1 Z.z.lr p' c.w.toNat ((s.line++[n]).map (txR T Z.kb)) false:=by rw[List.map_append];exact h1
  have hD:=(h.dn hf).trans (hW.setLi h2 h1' h3 (Nat.le_refl _));have hM:=hD.m;obtain⟨w2,k1,k2,k3⟩:=hM.wa.drop n hi 0;rw[zaab]at k2
  have hl:=hM.wa.look n hi;rw[show wtF T Z.kb s.wt n=some (some (n,B,K)) from hF]at hl
  exact⟨rfl,hM.mc rfl,hM.mc rfl,hl,w2,k1,p',hD.trans (hM.setWa k3 k2 hM.few.2.1 (Nat.le_refl _))⟩
 clear h hF hlk hK hB;go_enter Tryz.func258,Tryz.ntmps258;go_wp2_with fail
 go_region_held3 (fun W=>W.cell? ⟨Z.z.mb,7,none⟩=some (.map (some Z.z.wb))/\W.cell? ⟨Z.z.mb,8,none⟩=some (.pointer (some ⟨Z.z.lr,0,none⟩))/\(Instr.lookup 67 (.map (some Z.z.wb)) (.int .i64 n) false).run Tryz.prog W=.ok (.agg #[.int .i64 n,.slice (some ⟨B,0,none⟩) K K]) W) (go_keep)
  (first
   |(with_reducible refine Calls.mono (HP.out _ (Fr.drew _ _)) ?_;rintro e w5⟨rfl,y1,z1,z2,w6,y2,y3⟩))
 have HY:Hid (zlt w0 c T w Z s n w6):=y3;have HD:Hid (∃w',(Builtin.delete_ #[67,3] 0 #[.map (some Z.z.wb),.int .i64 n]).run Tryz.prog w5=.ok (.tuple #[]) w'/\zlt w0 c T w Z s n w'):=⟨w6,y2,HY.out⟩;clear y3 y2 z1 z2 HY;go_wp2_with (first|(at_delete;refine zhn _ rfl _ _ _ _ rfl (.map (some Z.z.wb)) (.int .i64 n) rfl rfl (HD.out) ?_;rintro w7 hR;have HR:Hid (zlt w0 c T w Z s n w7):=hR;clear hR)|fail)
 go_wp2
 go_end0
 exact⟨⟨_,rfl⟩,HR.out⟩
end
section
variable{w0 w w':World}{c:Cf}{T:List Tx}{Z:Lay}{s:Ms}
theorem MaM.readF(h:MaM w0 w c T Z s)(hv:s.hv=false)(hr:s.rd<s.fd) :
  Calls Tryz.prog 252 #[.pointer (some ⟨Z.z.fb,0,none⟩)] w fun e w'=>e=.returned (.tuple #[.int .i64 ((s.rd+1:Nat):Int),.int .i64 0])/\∃v' hw',Dn w0 c T w Z s w' {Z with v:=v',hw:=hw'} {s with rd:=s.rd+1,hv:=true}:=by
 have hfe:=h.fe;have hm:=hfe.m;have hfl:=hm.fl;have hfew:=hm.src.few;have rc:(⟨s.rd,s.fd,c.w.toNat,s.hv,false⟩:F.Fe).readC=0:=by simp[F.Fe.readC,hv];omega
 refine (F.fRead_any hm (by have h1:=zdo hm.ok;have h2:s.fd<=Z.y.ts.length:=hm.fl;simp[txs]at h1;simp[askd];omega)).mono ?_;rintro e w'⟨rfl,(⟨k,_⟩|⟨_,v',hw',k1,k2,k3,kb,kn,rfl,k5⟩)⟩
 .exact absurd rc k
 have rn:(⟨s.rd,s.fd,c.w.toNat,s.hv,false⟩:F.Fe).readN=s.rd+1:=by simp[F.Fe.readN,rc]
 have rs:(⟨s.rd,s.fd,c.w.toNat,s.hv,false⟩:F.Fe).readS=⟨s.rd+1,s.fd,c.w.toNat,true,false⟩:=by simp[F.Fe.readS,rc]
 rw[rs]at k1
 have ha:askd s.rd++[(⟨s.rd,s.fd,c.w.toNat,s.hv,false⟩:F.Fe).rd+1]=askd (s.rd+1):=(zwr _).symm;rw[ha]at k1
 have hkb:kb<w'.heap.size:=by
  obtain⟨_,k,e1,e2,_⟩:=k1.held rfl;have:kb=k:=by cases e1;rfl
  rw[this];exact lt_of_block e2
 have hd:=h.setFe k2 (fun b hb _=> ?_) (v':=v') (hw':=.slice (some ⟨kb,0,none⟩) kn kn) (rd:=s.rd+1) (fd:=s.fd) (hv:=true) (k:=s.k) ⟨k1,hfe.f0,hfe.g0,hfe.l0,hfe.m0,hfe.t0,Nat.le_trans hfe.b0 k2.size,fun k hk=> ?_,fun k hk=> ?_⟩ (fun b hb=> ?_) (Nat.le_refl _)
 .exact⟨by rw[rn,rc];rfl,v',_,hd⟩
 .rcases List.mem_cons.1 hb with rfl|hb
  .exact Or.inl ⟨hm.fn,hfe.f0⟩
  simp only[F.Src.own,List.mem_cons,Option.mem_toList]at hb;rcases hb with rfl|hb
  .exact Or.inl ⟨hm.src.gn,hfe.g0⟩
  exact Or.inr (Or.inl hb)
 .simp[Value.ownBlock]at hk
  subst hk;exact⟨Nat.le_trans h.fr.size k5,hkb⟩
 .simp[Value.ownBlock]at hk
  subst hk;exact Nat.le_trans hfe.b0 k5
 rcases hb with hb|hb|hb
 .exact Or.inl (Or.inl hb)
 .rcases k3 with e|⟨k,e,hk⟩
  .exact Or.inl (Or.inr (Or.inl (by rw[<-e];exact hb)))
  rw[e]at hb;cases hb;exact Or.inr hk
 simp[Value.ownBlock]at hb
 subst hb;exact Or.inr k5
theorem zadd(h:MaM w0 w c T Z s)(hnr:Z.nr=s.d)(hv:s.hv=false)(hr:s.rd<s.fd):Calls Tryz.prog 251 #[.pointer (some ⟨Z.z.kd,0,none⟩),.int .u8 1] w fun e w'=>StP w0 c T w Z s ((s.rd+1:Nat):Int) 0 0 (zjw s) e w':=by
 obtain⟨w1,HW1⟩:∃w1,Hid (w.alloc (.cells #[.int .i64 0,.int .u8 0,.int .i64 0,.int .i64 0,.int .i64 0,.int .i64 0] 35)=w1):=⟨_,rfl⟩;obtain⟨A,HA⟩:∃A,Hid (w.heap.size=A):=⟨_,rfl⟩;have hF1:Fr [] w w1:=by rw[<-HW1.out];exact Fr.alloc _ _ _
 have hBx:Bx w0 c T w1 Z s A:=by rw[<-HW1.out,<-HA.out];exact Bx.new h
 have h1:=h.quiet hF1;obtain⟨N,hN⟩:∃N:Int,((s.rd+1:Nat):Int)=N:=⟨_,rfl⟩;have c0:w1.cell? ⟨Z.z.kd,0,none⟩=some (.pointer (some ⟨Z.z.mb,0,none⟩)):=h1.kdc.1;have c5:w1.cell? ⟨Z.z.mb,5,none⟩=some (.pointer (some ⟨Z.z.fb,0,none⟩)):=h1.mc rfl;have HC1:Hid (Calls Tryz.prog 252 #[.pointer (some ⟨Z.z.fb,0,none⟩)] w1 fun e w'=>e=.returned (.tuple #[.int .i64 N,.int .i64 0])/\w'.heap[A]? = some (.cells #[.int .i64 0,.int .u8 0,.int .i64 0,.int .i64 0,.int .i64 0,.int .i64 0] 35 (0,0))/\∀W',Fr [A] w' W'->∃Z',Dn w0 c T w Z s W' Z' (zjw s)/\Z'.nr=(zjw s).d):=by
  refine (h1.readF hv hr).mono ?_;rintro e w'⟨rfl,v',hw',hD⟩;refine⟨by rw[hN],(hBx.then hD).box,fun W' hf=>⟨_,(hD.steps (k:=s.k+1) (Nat.le_succ _)).fin h hF1 (by rw[HA.out];exact Nat.le_refl _) hBx hf,hnr⟩⟩
 rw[hN];clear h hnr hv hr hF1 hBx h1 hN;go_enter Tryz.func251,Tryz.ntmps251;go_upto_region 1 with fail
 rw[HW1.out,HA.out];clear HW1 HA;go_wp2_with fail
 refine Calls.mono HC1.out ?_;rintro e w2⟨rfl,hb,hfin⟩;have HFin:Hid (∀W',_->_):=hfin;clear hfin HC1 c0 c5;go_wp2_with (first
  |(refine zag rfl _ _ rfl A 0 0 N 0 0 0 rfl rfl 0 0 0 0 0 0 hb ?_;intro w6 hw6 hf6;have HF6:Hid _:=HFin.out _ hf6;clear hf6)
  |fail)
 refine bodyPost_ret (zay rfl _ _ _ A _ rfl (zbv hw6.out)) rfl ?_;exact⟨rfl,HF6.out⟩
end
end Go.Proofs.YtakbodlicfmkjaaGreat
