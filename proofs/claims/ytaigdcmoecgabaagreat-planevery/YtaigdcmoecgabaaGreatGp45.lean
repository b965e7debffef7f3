/- Contracts and lemmas. -/
import Derived.Test.YtaigdcmoecgabaaGreatGp44
set_option maxHeartbeats 4000000
set_option maxRecDepth 100000
set_option linter.unusedSimpArgs false
set_option linter.unusedVariables false
namespace Go.Proofs.YtaigdcmoecgabaaGreat
open Go.ChangeShapes Go.WideShapes Go.ChangeAt Go.RowKit Go.Lib Go.Maps Go.Proofs.Tryz
section
variable{w0 w w':World}{p:Nat}{c:Cf}{T:List Tx}{Z:Lay}{s:Ms}
theorem MaM.more0(h:MaM w0 w c T Z s)(n:Int)(hn:(s.fd:Int)<=n/\n<=(T.length:Int)):Calls prog 54 #[.pointer (some ⟨Z.z.fb,0,none⟩),.int .i64 n] w fun e w'=>e=.returned (.int .i64 0)/\Dn w0 c T w Z s w' {Z with v:=Z.v,hw:=Z.hw} {s with fd:=zbj T s.fd n}:=by
 have hfe:=h.fe;have hm:=hfe.m;have hlen:T.length=Z.y.ts.length:=by rw[<-h.log,zaf]
 refine (F.fMore_any hm n).mono ?_;rintro e w'⟨rfl,k1,k2⟩;have hms:(⟨s.rd,s.fd,c.w.toNat,s.hv,false⟩:F.Fe).moreS Z.y.ts.length n=⟨s.rd,zbj T s.fd n,c.w.toNat,s.hv,false⟩:=by
  unfold F.Fe.moreS F.Fe.moreC zbj;rw[hlen];simp only[Bool.false_eq_true,if_false];split
  .rw[if_neg (by decide)]
  rw[if_pos rfl]
 rw[hms]at k1
 have hmc:(⟨s.rd,s.fd,c.w.toNat,s.hv,false⟩:F.Fe).moreC Z.y.ts.length n=0:=by
  unfold F.Fe.moreC;rw[<-hlen];simp only[Bool.false_eq_true,if_false];rw[if_neg (by omega)]
 refine⟨by rw[hmc];rfl,?_⟩;have hd:=h.setFe k2 (fun b hb _=> ?_) (v':=Z.v) (hw':=Z.hw) (rd:=s.rd) (fd:=zbj T s.fd n) (hv:=s.hv) (k:=s.k) ⟨k1,hfe.f0,hfe.g0,hfe.l0,hfe.m0,hfe.t0,Nat.le_trans hfe.b0 k2.size,fun k hk=>⟨(hfe.h0 k hk).1,Nat.lt_of_lt_of_le (hfe.h0 k hk).2 k2.size⟩,hfe.hB⟩ (fun b hb=>Or.inl hb) (Nat.le_refl _)
 .exact hd
 rw[List.mem_singleton.1 hb];exact Or.inl ⟨hm.fn,hfe.f0⟩
theorem zaje(h:RP w0 w p c T Z s)(n:Int)(hn:(s.fd:Int)<=n/\n<=(T.length:Int)):Calls prog 23 #[.pointer (some ⟨p,0,none⟩),.int .i64 n] w fun e w'=>e=.returned (.int .i64 0)/\Dn w0 c T w Z s w' {Z with v:=Z.v,hw:=Z.hw} {s with fd:=zbj T s.fd n}:=by
 have HT:Hid (Calls ..):=zjk h;have c0:=h.c0;have c5:w.cell? ⟨Z.z.mb,5,none⟩=some (.pointer (some ⟨Z.z.fb,0,none⟩)):=h.m.mc rfl;have HM:Hid (Calls ..):=h.m.more0 n hn;clear h hn;go_enter func23,ntmps23;go_wp2_with fail
 refine Calls.mono HT.out ?_;rintro e w1⟨rfl,rfl⟩;go_wp2_with fail
 refine Calls.mono HM.out ?_;rintro e w1⟨rfl,hD⟩;have HD:Hid (Dn _ _ _ _ _ _ _ _ _):=hD;clear hD;go_wp2;go_ret;exact⟨rfl,HD.out⟩
end
section
variable{w0 w w':World}{p:Nat}{c:Cf}{T:List Tx}{Z:Lay}{s:Ms}
def Nil(T:List Tx)(s:Ms):Prop:=s.hv=false/\s.rd=s.fd/\∀n,¬Opn T s n
theorem zaha(h:MaM w0 w c T Z s)(hv:s.hv=true)(hr:0<s.rd):Calls prog 50 #[.pointer (some ⟨Z.z.mb,0,none⟩)] w fun e w'=>e=.returned (.bool false)/\Fr [] w w':=by
 have hmay:=h.may;have hr0:((s.rd:Int)==0)=false:=by simp;omega
 have c5:∀y:Wq w,y.W.cell? ⟨Z.z.mb,5,none⟩=some (.pointer (some ⟨Z.z.fb,0,none⟩)):=fun y=>(h.quiet y.h).mc rfl;have c12:∀y:Wq w,y.W.cell? ⟨Z.z.mb,12,none⟩=some (.pointer (some ⟨Z.z.gb,0,none⟩)):=fun y=>(h.quiet y.h).mc rfl;have HM:∀y:Wq w,Calls prog 48 #[.pointer (some ⟨Z.z.gb,0,none⟩)] y.W fun e w'=>e=.returned (.int .i64 s.ma)/\Fr [] y.W w':=fun y=>zff (h.quiet y.h).ga;have HH:∀y:Wq w,Calls prog 79 #[.pointer (some ⟨Z.z.fb,0,none⟩)] y.W fun e w'=>e=.returned (.int .i64 (s.rd:Int))/\Fr [] y.W w':=fun y=>by
  refine (F.fHeld_any (h.quiet y.h).fe.m).mono ?_;rintro e w'⟨rfl,rfl⟩;refine⟨?_,Fr.refl _ _⟩;simp[F.Fe.num,hv]
 generalize s.rd=R at hr hr0 HH;clear h hv hmay;go_enter func50,ntmps50;go_wp2_with fail
 refine zci (w1:=w) (by kernel_rfl) (by kernel_rfl) (Fr.refl _ _) ?_
 repeat (go_big_quiet_step (first
  |(go_at_call 48;with_reducible refine (HM _).mono ?_;exact fun e w3 hh=>⟨hh.1,⟨_,Fr.then (Wq.h _) hh.2⟩,rfl⟩)
  |(go_at_call 79;with_reducible refine (HH _).mono ?_;exact fun e w3 hh=>⟨hh.1,⟨_,Fr.then (Wq.h _) hh.2⟩,rfl⟩)
  |simp[go_sem,c5,c12]))
 refine wpQuiet_nil ?_;rintro _⟨z,rfl⟩;have HZ:Hid (Fr [] w z.W):=z.h;obtain⟨wz,HWZ⟩:∃wz,wz=z.W:=⟨_,rfl⟩;rw[<-HWZ]at HZ ⊢
 clear HWZ z c5 c12 HM HH;go_wp2_with fail
 go_ret;exact⟨rfl,HZ.out⟩
end
section
variable{w0 w w':World}{p:Nat}{c:Cf}{T:List Tx}{Z:Lay}{s:Ms}
end
end Go.Proofs.YtaigdcmoecgabaaGreat
