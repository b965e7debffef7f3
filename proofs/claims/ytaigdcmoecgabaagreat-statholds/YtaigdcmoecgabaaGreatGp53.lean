/- Contracts and lemmas. -/
import Derived.Test.YtaigdcmoecgabaaGreatGp49
set_option maxHeartbeats 4000000
set_option maxRecDepth 100000
set_option linter.unusedSimpArgs false
set_option linter.unusedVariables false
namespace Go.Proofs.YtaigdcmoecgabaaGreat
open Go.ChangeShapes Go.WideShapes Go.ChangeAt Go.RowKit Go.Lib Go.Maps
section
variable{w0 w w':World}{p:Nat}{c:Cf}{T:List Tx}{Z:Lay}{s:Ms}
def Nil(T:List Tx)(s:Ms):Prop:=s.hv=false/\s.rd=s.fd/\∀n,¬Opn T s n
def OvP(P:Prop)(e:Ending):Prop:=∃b:Bool,e=.returned (.bool b)/\(b=true->P)
theorem OvP.no{P:Prop}:OvP P (.returned (.bool false)):=⟨false,rfl,fun h=>by cases h⟩
theorem OvP.yes{P:Prop}(h:P):OvP P (.returned (.bool true)):=⟨true,rfl,fun _=>h⟩
theorem zabe(h:MaM w0 w c T Z s)(hv:s.hv=true)(hr:0<s.rd):Calls Tryz.prog 50 #[.pointer (some ⟨Z.z.mb,0,none⟩)] w fun e w'=>e=.returned (.bool false)/\Fr [] w w':=by
 have hmay:=h.may;have hr0:((s.rd:Int)==0)=false:=by simp;omega
 have c5:∀y:Wq w,y.W.cell? ⟨Z.z.mb,5,none⟩=some (.pointer (some ⟨Z.z.fb,0,none⟩)):=fun y=>(h.quiet y.h).mc rfl;have c12:∀y:Wq w,y.W.cell? ⟨Z.z.mb,12,none⟩=some (.pointer (some ⟨Z.z.gb,0,none⟩)):=fun y=>(h.quiet y.h).mc rfl;have HM:∀y:Wq w,Calls Tryz.prog 48 #[.pointer (some ⟨Z.z.gb,0,none⟩)] y.W fun e w'=>e=.returned (.int .i64 s.ma)/\Fr [] y.W w':=fun y=>zgc (h.quiet y.h).ga;have HH:∀y:Wq w,Calls Tryz.prog 79 #[.pointer (some ⟨Z.z.fb,0,none⟩)] y.W fun e w'=>e=.returned (.int .i64 (s.rd:Int))/\Fr [] y.W w':=fun y=>by
  refine (F.fHeld_any (h.quiet y.h).fe.m).mono ?_;rintro e w'⟨rfl,rfl⟩;refine⟨?_,Fr.refl _ _⟩;simp[F.Fe.num,hv]
 generalize s.rd=R at hr hr0 HH;clear h hv hmay;go_enter Tryz.func50,Tryz.ntmps50;go_wp2_with fail
 refine zbz (w1:=w) (by kernel_rfl) (by kernel_rfl) (Fr.refl _ _) ?_
 repeat (go_big_quiet_step (first
  |(go_at_call 48;with_reducible refine (HM _).mono ?_;exact fun e w3 hh=>⟨hh.1,⟨_,Fr.then (Wq.h _) hh.2⟩,rfl⟩)
  |(go_at_call 79;with_reducible refine (HH _).mono ?_;exact fun e w3 hh=>⟨hh.1,⟨_,Fr.then (Wq.h _) hh.2⟩,rfl⟩)
  |simp[go_sem,c5,c12]))
 refine wpQuiet_nil ?_;rintro _⟨z,rfl⟩;have HZ:Hid (Fr [] w z.W):=z.h;obtain⟨wz,HWZ⟩:∃wz,wz=z.W:=⟨_,rfl⟩;rw[<-HWZ]at HZ ⊢
 clear HWZ z c5 c12 HM HH;go_wp2_with fail
 go_ret;exact⟨rfl,HZ.out⟩
theorem zabf(h:MaM w0 w c T Z s)(hv:s.hv=false)(hk:s.k<16000000)(K:Nat)(hK:canD c s=K)(hK0:K=0\/K=1):Calls Tryz.prog 50 #[.pointer (some ⟨Z.z.mb,0,none⟩)] w fun e w'=>OvP (K=0/\∀n,¬Opn T s n) e/\Fr [] w w':=by
 have hmay:=h.may;have c5:∀y:Wq w,y.W.cell? ⟨Z.z.mb,5,none⟩=some (.pointer (some ⟨Z.z.fb,0,none⟩)):=fun y=>(h.quiet y.h).mc rfl;have c12:∀y:Wq w,y.W.cell? ⟨Z.z.mb,12,none⟩=some (.pointer (some ⟨Z.z.gb,0,none⟩)):=fun y=>(h.quiet y.h).mc rfl;have HM:∀y:Wq w,Calls Tryz.prog 48 #[.pointer (some ⟨Z.z.gb,0,none⟩)] y.W fun e w'=>e=.returned (.int .i64 s.ma)/\Fr [] y.W w':=fun y=>zgc (h.quiet y.h).ga;have HC:∀y:Wq w,Calls Tryz.prog 80 #[.pointer (some ⟨Z.z.fb,0,none⟩),.int .i64 s.ma] y.W fun e w'=>e=.returned (.int .u8 (K:Int))/\Fr [] y.W w':=fun y=>by
  have:=F.fCan_any (h.quiet y.h).fe.m s.ma;rw[ztu h.may,hK]at this
  exact this
 have HH:∀y:Wq w,Calls Tryz.prog 79 #[.pointer (some ⟨Z.z.fb,0,none⟩)] y.W fun e w'=>e=.returned (.int .i64 0)/\Fr [] y.W w':=fun y=>by
  refine (F.fHeld_any (h.quiet y.h).fe.m).mono ?_;rintro e w'⟨rfl,rfl⟩;refine⟨?_,Fr.refl _ _⟩;simp[F.Fe.num,hv]
 have HOx:Hid (∀W,Fr [] w W->Calls Tryz.prog 81 #[.pointer (some ⟨Z.z.tb,0,none⟩)] W fun e w'=>∃so N cc,e=.returned (.slice so N cc)/\Hid (N=0->∀n,¬Opn T s n)/\Fr [] W w'):=fun W hf=>by
  have hM:=h.quiet hf;refine (zyv W hM.de (by have:=hM.few.1;omega)).mono ?_;rintro e w'⟨so,N,cc,ys,rfl,hI,_,hmem,hf⟩;refine⟨so,N,cc,rfl,fun h0 n hn=> ?_,hf⟩;have hy:ys=[]:=List.eq_nil_of_length_eq_zero (by rw[<-hI.len];exact h0);have:=(hmem n).2 hn;rw[hy]at this
  cases this
 have HCx:Hid (∀W,Fr [] w W->W.cell? ⟨Z.z.mb,6,none⟩=some (.pointer (some ⟨Z.z.tb,0,none⟩))/\W.cell? ⟨Z.z.mb,14,none⟩=some (.slice none 0 0)):=fun W hf=>⟨(h.quiet hf).mc rfl,(h.quiet hf).mc rfl⟩;clear h hmay hK hv;rcases hK0 with rfl|rfl
 .go_enter Tryz.func50,Tryz.ntmps50;go_wp2_with fail
  refine zbz (w1:=w) (by kernel_rfl) (by kernel_rfl) (Fr.refl _ _) ?_
  repeat (go_big_quiet_step (first
   |(go_at_call 48;with_reducible refine (HM _).mono ?_;exact fun e w3 hh=>⟨hh.1,⟨_,Fr.then (Wq.h _) hh.2⟩,rfl⟩)
   |(go_at_call 79;with_reducible refine (HH _).mono ?_;exact fun e w3 hh=>⟨hh.1,⟨_,Fr.then (Wq.h _) hh.2⟩,rfl⟩)
   |(go_at_call 80;with_reducible refine (HC _).mono ?_;exact fun e w3 hh=>⟨hh.1,⟨_,Fr.then (Wq.h _) hh.2⟩,rfl⟩)
   |simp[go_sem,c5,c12]))
  refine wpQuiet_nil ?_;rintro _⟨z,rfl⟩;have HZ:Hid (Fr [] w z.W):=z.h;obtain⟨wz,HWZ⟩:∃wz,wz=z.W:=⟨_,rfl⟩;rw[<-HWZ]at HZ ⊢
  clear HWZ z c5 c12 HM HC HH;obtain⟨c6,_⟩:=HCx.out wz HZ.out;have HO1:Hid (Calls ..):=HOx.out wz HZ.out;go_wp2_with fail
  refine Calls.mono HO1.out ?_;rintro e w3⟨so,N,cc,rfl,HN,hf3⟩;obtain⟨_,c14⟩:=HCx.out w3 (HZ.out.then hf3);have HF3:Hid (Fr [] w w3):=HZ.out.then hf3;clear hf3 HO1 HOx HCx c6 HZ;by_cases hN:N=0
  .have HY:Hid (∀n,¬Opn T s n):=HN.out hN;subst hN;clear HN;go_wp2_with fail
   go_ret;exact⟨OvP.yes ⟨by first|rfl|trivial,HY.out⟩,HF3.out⟩
  have hb:((N:Int)==0)=false:=by simp[hN]
  clear HN;go_wp2_with fail
  go_ret;exact⟨OvP.no,HF3.out⟩
 go_enter Tryz.func50,Tryz.ntmps50;go_wp2_with fail
 refine zbz (w1:=w) (by kernel_rfl) (by kernel_rfl) (Fr.refl _ _) ?_
 repeat (go_big_quiet_step (first
  |(go_at_call 48;with_reducible refine (HM _).mono ?_;exact fun e w3 hh=>⟨hh.1,⟨_,Fr.then (Wq.h _) hh.2⟩,rfl⟩)
  |(go_at_call 79;with_reducible refine (HH _).mono ?_;exact fun e w3 hh=>⟨hh.1,⟨_,Fr.then (Wq.h _) hh.2⟩,rfl⟩)
  |(go_at_call 80;with_reducible refine (HC _).mono ?_;exact fun e w3 hh=>⟨hh.1,⟨_,Fr.then (Wq.h _) hh.2⟩,rfl⟩)
  |simp[go_sem,c5,c12]))
 refine wpQuiet_nil ?_;rintro _⟨z,rfl⟩;have HZ:Hid (Fr [] w z.W):=z.h;obtain⟨wz,HWZ⟩:∃wz,wz=z.W:=⟨_,rfl⟩;rw[<-HWZ]at HZ ⊢
 clear HWZ z c5 c12 HM HC HH HOx HCx;go_wp2_with fail
 go_ret;exact⟨OvP.no,HZ.out⟩
theorem zabg(h:MaM w0 w c T Z s)(hW:Wf c T s)(hk:s.k<16000000):Calls Tryz.prog 50 #[.pointer (some ⟨Z.z.mb,0,none⟩)] w fun e w'=>OvP (Nil T s) e/\Fr [] w w':=by
 cases hv:s.hv with
 |true=>
  refine (zabe h hv (by have:=hW.hol hv;omega)).mono ?_;rintro e w'⟨rfl,hf⟩;exact⟨OvP.no,hf⟩
 |false=>
  have hfd:=hW.fdl.1;refine (zabf h hv hk (canD c s) rfl (by unfold canD;rw[if_pos hv];split<;>simp)).mono ?_;rintro e w'⟨⟨b,rfl,hb⟩,hf⟩;refine⟨⟨b,rfl,fun e=> ?_⟩,hf⟩;obtain⟨h0,h1⟩:=hb e;unfold canD at h0;rw[if_pos hv]at h0
  refine⟨hv,?_,h1⟩;by_cases hr:s.rd<s.fd
  .rw[if_pos hr]at h0;cases h0
  omega
theorem zabh(h:RP w0 w p c T Z s)(hW:Wf c T s)(hk:s.k<16000000):Calls Tryz.prog 20 #[.pointer (some ⟨p,0,none⟩)] w fun e w'=>OvP (Nil T s) e/\Fr [] w w':=by
 have HT:Hid (Calls ..):=zls h;have c0:=h.c0;have c18:w.cell? ⟨Z.z.mb,18,none⟩=some (.bool false):=h.m.mc rfl;have HD:Hid (Calls ..):=zabg h.m hW hk;clear h hW hk;go_enter Tryz.func20,Tryz.ntmps20;go_wp2_with fail
 refine Calls.mono HT.out ?_;rintro e w2⟨rfl,rfl⟩;go_wp2_with fail
 refine Calls.mono HD.out ?_;rintro e w3⟨⟨b,rfl,hb⟩,hf⟩;have HF:Hid (Fr [] w w3):=hf;have HB:Hid (_=true->Nil T s):=hb;clear hf hb;cases b with
 |true=>
  go_wp2;go_ret;exact⟨OvP.yes (HB.out (by first|rfl|trivial)),HF.out⟩
 |false=>
  go_wp2;go_ret;exact⟨OvP.no,HF.out⟩
end
end Go.Proofs.YtaigdcmoecgabaaGreat
