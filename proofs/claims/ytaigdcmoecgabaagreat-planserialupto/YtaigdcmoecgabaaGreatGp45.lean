/- Contracts and lemmas. -/
import Derived.Test.YtaigdcmoecgabaaGreatGp44
set_option maxHeartbeats 4000000
set_option maxRecDepth 100000
set_option linter.unusedSimpArgs false
set_option linter.unusedVariables false
namespace Go.Proofs.YtaigdcmoecgabaaGreat
open Go.ChangeShapes Go.WideShapes Go.ChangeAt Go.RowKit Go.Lib Go.Maps Go.Proofs.Tryz
section
variable{w0 w w':World}{p:Nat}{c:Cf}{T:List Tx}{Z:Lay}{s:Ms}
theorem MaM.more0(h:MaM w0 w c T Z s)(n:Int)(hn:(s.fd:Int)<=n/\n<=(T.length:Int)):Calls prog 54 #[.pointer (some ⟨Z.z.fb,0,none⟩),.int .i64 n] w fun e w'=>e=.returned (.int .i64 0)/\Dn w0 c T w Z s w' {Z with v:=Z.v,hw:=Z.hw} {s with fd:=zbj T s.fd n}:=by
 have hfe:=h.fe;have hm:=hfe.m;have hlen:T.length=Z.y.ts.length:=by rw[<-h.log,zaf]
 refine (F.fMore_any hm n).mono ?_;rintro e w'⟨rfl,k1,k2⟩;have hms:(⟨s.rd,s.fd,c.w.toNat,s.hv,false⟩:F.Fe).moreS Z.y.ts.length n=⟨s.rd,zbj T s.fd n,c.w.toNat,s.hv,false⟩:=by
  unfold F.Fe.moreS F.Fe.moreC zbj;rw[hlen];simp only[Bool.false_eq_true,if_false];split
  .rw[if_neg (by decide)]
  rw[if_pos rfl]
 rw[hms]at k1
 have hmc:(⟨s.rd,s.fd,c.w.toNat,s.hv,false⟩:F.Fe).moreC Z.y.ts.length n=0:=by
  unfold F.Fe.moreC;rw[<-hlen];simp only[Bool.false_eq_true,if_false];rw[if_neg (by omega)]
 refine⟨by rw[hmc];rfl,?_⟩;have hd:=h.setFe k2 (fun b hb _=> ?_) (v':=Z.v) (hw':=Z.hw) (rd:=s.rd) (fd:=zbj T s.fd n) (hv:=s.hv) (k:=s.k) ⟨k1,hfe.f0,hfe.g0,hfe.l0,hfe.m0,hfe.t0,Nat.le_trans hfe.b0 k2.size,fun k hk=>⟨(hfe.h0 k hk).1,Nat.lt_of_lt_of_le (hfe.h0 k hk).2 k2.size⟩,hfe.hB⟩ (fun b hb=>Or.inl hb) (Nat.le_refl _)
 .exact hd
 rw[List.mem_singleton.1 hb];exact Or.inl ⟨hm.fn,hfe.f0⟩
theorem zaje(h:RP w0 w p c T Z s)(n:Int)(hn:(s.fd:Int)<=n/\n<=(T.length:Int)):Calls prog 23 #[.pointer (some ⟨p,0,none⟩),.int .i64 n] w fun e w'=>e=.returned (.int .i64 0)/\Dn w0 c T w Z s w' {Z with v:=Z.v,hw:=Z.hw} {s with fd:=zbj T s.fd n}:=by
 have HT:Hid (Calls ..):=zjk h;have c0:=h.c0;have c5:w.cell? ⟨Z.z.mb,5,none⟩=some (.pointer (some ⟨Z.z.fb,0,none⟩)):=h.m.mc rfl;have HM:Hid (Calls ..):=h.m.more0 n hn;clear h hn;go_enter func23,ntmps23;go_wp2_with fail
 refine Calls.mono HT.out ?_;rintro e w1⟨rfl,rfl⟩;go_wp2_with fail
 refine Calls.mono HM.out ?_;rintro e w1⟨rfl,hD⟩;have HD:Hid (Dn _ _ _ _ _ _ _ _ _):=hD;clear hD;go_wp2;go_ret;exact⟨rfl,HD.out⟩
end
section
variable{w0 w w':World}{p:Nat}{c:Cf}{T:List Tx}{Z:Lay}{s:Ms}
def Nil(T:List Tx)(s:Ms):Prop:=s.hv=false/\s.rd=s.fd/\∀n,¬Opn T s n
theorem zaha(h:MaM w0 w c T Z s)(hv:s.hv=true)(hr:0<s.rd):Calls prog 50 #[.pointer (some ⟨Z.z.mb,0,none⟩)] w fun e w'=>e=.returned (.bool false)/\Fr [] w w':=by
 have hmay:=h.may;have hr0:((s.rd:Int)==0)=false:=by simp;omega
 have c5:∀y:Wq w,y.W.cell? ⟨Z.z.mb,5,none⟩=some (.pointer (some ⟨Z.z.fb,0,none⟩)):=fun y=>(h.quiet y.h).mc rfl;have c12:∀y:Wq w,y.W.cell? ⟨Z.z.mb,12,none⟩=some (.pointer (some ⟨Z.z.gb,0,none⟩)):=fun y=>(h.quiet y.h).mc rfl;have HM:∀y:Wq w,Calls prog 48 #[.pointer (some ⟨Z.z.gb,0,none⟩)] y.W fun e w'=>e=.returned (.int .i64 s.ma)/\Fr [] y.W w':=fun y=>zff (h.quiet y.h).ga;have HH:∀y:Wq w,Calls prog 79 #[.pointer (some ⟨Z.z.fb,0,none⟩)] y.W fun e w'=>e=.returned (.int .i64 (s.rd:Int))/\Fr [] y.W w':=fun y=>by
  refine (F.fHeld_any (h.quiet y.h).fe.m).mono ?_;rintro e w'⟨rfl,rfl⟩;refine⟨?_,Fr.refl _ _⟩;simp[F.Fe.num,hv]
 generalize s.rd=R at hr hr0 HH;clear h hv hmay;go_enter func50,ntmps50;go_wp2_with fail
 refine zci (w1:=w) (by kernel_rfl) (by kernel_rfl) (Fr.refl _ _) ?_
 repeat (go_big_quiet_step (first
  |(go_at_call 48;with_reducible refine (HM _).mono ?_;exact fun e w3 hh=>⟨hh.1,⟨_,Fr.then (Wq.h _) hh.2⟩,rfl⟩)
  |(go_at_call 79;with_reducible refine (HH _).mono ?_;exact fun e w3 hh=>⟨hh.1,⟨_,Fr.then (Wq.h _) hh.2⟩,rfl⟩)
  |simp[go_sem,c5,c12]))
 refine wpQuiet_nil ?_;rintro _⟨z,rfl⟩;have HZ:Hid (Fr [] w z.W):=z.h;obtain⟨wz,HWZ⟩:∃wz,wz=z.W:=⟨_,rfl⟩;rw[<-HWZ]at HZ ⊢
 clear HWZ z c5 c12 HM HH;go_wp2_with fail
 go_ret;exact⟨rfl,HZ.out⟩
end
section
variable{w0 w w':World}{p:Nat}{c:Cf}{T:List Tx}{Z:Lay}{s:Ms}
def OvQ(P:Prop)(e:Ending):Prop:=∃b:Bool,e=.returned (.bool b)/\(b=true↔P)
theorem OvQ.no{P:Prop}(h:¬P):OvQ P (.returned (.bool false)):=⟨false,rfl,⟨fun h=>absurd h (by simp),fun k=>absurd k h⟩⟩
theorem OvQ.yes{P:Prop}(h:P):OvQ P (.returned (.bool true)):=⟨true,rfl,⟨fun _=>h,fun _=>rfl⟩⟩
theorem zact(h:MaM w0 w c T Z s)(hv:s.hv=false)(hk:s.k<16000000)(K:Nat)(hK:canD c s=K)(hK0:K=0\/K=1):Calls prog 50 #[.pointer (some ⟨Z.z.mb,0,none⟩)] w fun e w'=>OvQ (K=0/\∀n,¬Opn T s n) e/\Fr [] w w':=by
 have hmay:=h.may;have c5:∀y:Wq w,y.W.cell? ⟨Z.z.mb,5,none⟩=some (.pointer (some ⟨Z.z.fb,0,none⟩)):=fun y=>(h.quiet y.h).mc rfl;have c12:∀y:Wq w,y.W.cell? ⟨Z.z.mb,12,none⟩=some (.pointer (some ⟨Z.z.gb,0,none⟩)):=fun y=>(h.quiet y.h).mc rfl;have HM:∀y:Wq w,Calls prog 48 #[.pointer (some ⟨Z.z.gb,0,none⟩)] y.W fun e w'=>e=.returned (.int .i64 s.ma)/\Fr [] y.W w':=fun y=>zff (h.quiet y.h).ga;have HC:∀y:Wq w,Calls prog 80 #[.pointer (some ⟨Z.z.fb,0,none⟩),.int .i64 s.ma] y.W fun e w'=>e=.returned (.int .u8 (K:Int))/\Fr [] y.W w':=fun y=>by
  have:=F.fCan_any (h.quiet y.h).fe.m s.ma;rw[zyl h.may,hK]at this
  exact this
 have HH:∀y:Wq w,Calls prog 79 #[.pointer (some ⟨Z.z.fb,0,none⟩)] y.W fun e w'=>e=.returned (.int .i64 0)/\Fr [] y.W w':=fun y=>by
  refine (F.fHeld_any (h.quiet y.h).fe.m).mono ?_;rintro e w'⟨rfl,rfl⟩;refine⟨?_,Fr.refl _ _⟩;simp[F.Fe.num,hv]
 have HOx:Hid (∀W,Fr [] w W->Calls prog 81 #[.pointer (some ⟨Z.z.tb,0,none⟩)] W fun e w'=>∃so N cc,e=.returned (.slice so N cc)/\Hid (N=0↔ ∀n,¬Opn T s n)/\Fr [] W w'):=fun W hf=>by
  have hM:=h.quiet hf;refine (zaeb W hM.de (by have:=hM.few.1;omega)).mono ?_;rintro e w'⟨so,N,cc,ys,rfl,hI,_,hmem,hf⟩;refine⟨so,N,cc,rfl,⟨fun h0 n hn=> ?_,fun hno=> ?_⟩,hf⟩
  .have hy:ys=[]:=List.eq_nil_of_length_eq_zero (by rw[<-hI.len];exact h0);have:=(hmem n).2 hn;rw[hy]at this
   cases this
  rw[hI.len];cases ys with
  |nil=>rfl
  |cons y r=>exact absurd ((hmem y).1 List.mem_cons_self) (hno y)
 have HCx:Hid (∀W,Fr [] w W->W.cell? ⟨Z.z.mb,6,none⟩=some (.pointer (some ⟨Z.z.tb,0,none⟩))/\W.cell? ⟨Z.z.mb,14,none⟩=some (.slice none 0 0)):=fun W hf=>⟨(h.quiet hf).mc rfl,(h.quiet hf).mc rfl⟩;clear h hmay hK hv;rcases hK0 with rfl|rfl
 .go_enter func50,ntmps50;go_wp2_with fail
  refine zci (w1:=w) (by kernel_rfl) (by kernel_rfl) (Fr.refl _ _) ?_
  repeat (go_big_quiet_step (first
   |(go_at_call 48;with_reducible refine (HM _).mono ?_;exact fun e w3 hh=>⟨hh.1,⟨_,Fr.then (Wq.h _) hh.2⟩,rfl⟩)
   |(go_at_call 79;with_reducible refine (HH _).mono ?_;exact fun e w3 hh=>⟨hh.1,⟨_,Fr.then (Wq.h _) hh.2⟩,rfl⟩)
   |(go_at_call 80;with_reducible refine (HC _).mono ?_;exact fun e w3 hh=>⟨hh.1,⟨_,Fr.then (Wq.h _) hh.2⟩,rfl⟩)
   |simp[go_sem,c5,c12]))
  refine wpQuiet_nil ?_;rintro _⟨z,rfl⟩;have HZ:Hid (Fr [] w z.W):=z.h;obtain⟨wz,HWZ⟩:∃wz,wz=z.W:=⟨_,rfl⟩;rw[<-HWZ]at HZ ⊢
  clear HWZ z c5 c12 HM HC HH;obtain⟨c6,_⟩:=HCx.out wz HZ.out;have HO1:Hid (Calls ..):=HOx.out wz HZ.out;go_wp2_with fail
  refine Calls.mono HO1.out ?_;rintro e w3⟨so,N,cc,rfl,HN,hf3⟩;obtain⟨_,c14⟩:=HCx.out w3 (HZ.out.then hf3);have HF3:Hid (Fr [] w w3):=HZ.out.then hf3;clear hf3 HO1 HOx HCx c6 HZ;by_cases hN:N=0
  .have HY:Hid (∀n,¬Opn T s n):=HN.out.1 hN;subst hN;clear HN;go_wp2_with fail
   go_ret;exact⟨OvQ.yes ⟨by first|rfl|trivial,HY.out⟩,HF3.out⟩
  have hb:((N:Int)==0)=false:=by simp[hN]
  have HNe:Hid (¬ ∀n,¬Opn T s n):=fun h=>hN (HN.out.2 h);clear HN;go_wp2_with fail
  go_ret;exact⟨OvQ.no fun h=>HNe.out h.2,HF3.out⟩
 go_enter func50,ntmps50;go_wp2_with fail
 refine zci (w1:=w) (by kernel_rfl) (by kernel_rfl) (Fr.refl _ _) ?_
 repeat (go_big_quiet_step (first
  |(go_at_call 48;with_reducible refine (HM _).mono ?_;exact fun e w3 hh=>⟨hh.1,⟨_,Fr.then (Wq.h _) hh.2⟩,rfl⟩)
  |(go_at_call 79;with_reducible refine (HH _).mono ?_;exact fun e w3 hh=>⟨hh.1,⟨_,Fr.then (Wq.h _) hh.2⟩,rfl⟩)
  |(go_at_call 80;with_reducible refine (HC _).mono ?_;exact fun e w3 hh=>⟨hh.1,⟨_,Fr.then (Wq.h _) hh.2⟩,rfl⟩)
  |simp[go_sem,c5,c12]))
 refine wpQuiet_nil ?_;rintro _⟨z,rfl⟩;have HZ:Hid (Fr [] w z.W):=z.h;obtain⟨wz,HWZ⟩:∃wz,wz=z.W:=⟨_,rfl⟩;rw[<-HWZ]at HZ ⊢
 clear HWZ z c5 c12 HM HC HH HOx HCx;go_wp2_with fail
 go_ret;exact⟨OvQ.no fun h=>absurd h.1 (by decide),HZ.out⟩
theorem zacu(h:MaM w0 w c T Z s)(hW:Wf c T s)(hk:s.k<16000000):Calls prog 50 #[.pointer (some ⟨Z.z.mb,0,none⟩)] w fun e w'=>OvQ (Nil T s) e/\Fr [] w w':=by
 cases hv:s.hv with
 |true=>
  refine (zaha h hv (by have:=hW.hol hv;omega)).mono ?_;rintro e w'⟨rfl,hf⟩;exact⟨OvQ.no (fun h=>by rw[h.1]at hv;cases hv),hf⟩
 |false=>
  have hfd:=hW.fdl.1;refine (zact h hv hk (canD c s) rfl (by unfold canD;rw[if_pos hv];split<;>simp)).mono ?_;rintro e w'⟨⟨b,rfl,hb⟩,hf⟩;refine⟨⟨b,rfl,hb.trans ⟨fun⟨h0,h1⟩=> ?_,fun⟨_,h0,h1⟩=>⟨?_,h1⟩⟩⟩,hf⟩
  .unfold canD at h0;rw[if_pos hv]at h0
   refine⟨hv,?_,h1⟩;by_cases hr:s.rd<s.fd
   .rw[if_pos hr]at h0;cases h0
   omega
  unfold canD;rw[if_pos hv,if_neg (by omega)]
theorem zacv(h:RP w0 w p c T Z s)(hW:Wf c T s)(hk:s.k<16000000):Calls prog 20 #[.pointer (some ⟨p,0,none⟩)] w fun e w'=>OvQ (Nil T s) e/\Fr [] w w':=by
 have HT:Hid (Calls ..):=zgl h;have c0:=h.c0;have c18:w.cell? ⟨Z.z.mb,18,none⟩=some (.bool false):=h.m.mc rfl;have HD:Hid (Calls ..):=zacu h.m hW hk;clear h hW hk;go_enter func20,ntmps20;go_wp2_with fail
 refine Calls.mono HT.out ?_;rintro e w2⟨rfl,rfl⟩;go_wp2_with fail
 refine Calls.mono HD.out ?_;rintro e w3⟨⟨b,rfl,hb⟩,hf⟩;have HF:Hid (Fr [] w w3):=hf;have HB:Hid (_=true↔Nil T s):=hb;clear hf hb;cases b with
 |true=>
  go_wp2;go_ret;exact⟨OvQ.yes (HB.out.1 (by first|rfl|trivial)),HF.out⟩
 |false=>
  go_wp2;go_ret;exact⟨OvQ.no fun h=>absurd (HB.out.2 h) (by simp),HF.out⟩
end
end Go.Proofs.YtaigdcmoecgabaaGreat
