/- Contracts and lemmas. -/
import Derived.Test.YtojjdnjfaelnfaaGreatDoorGp24
set_option maxHeartbeats 4000000
set_option maxRecDepth 100000
set_option linter.unusedSimpArgs false
set_option linter.unusedVariables false
namespace Go.Proofs.YtojjdnjfaelnfaaGreatDoor.O
open Go.ChangeShapes Go.WideShapes Go.ChangeAt Go.RowKit Go.Lib Go.Proofs.Tryz
section
variable{k f n:Int}{wk wv:ByteArray}{wd:Bool}{key en:ByteArray}{bo:Option Addr}{bl bc:Nat}{ns:List Int}
theorem zaid(w:World)(h:f=0\/n<0\/65536<n):Calls prog 305 #[.agg #[.int .u8 k,.int .i64 f,.int .i64 n,.string wk,.string wv,.bool wd,.string key,.string en,.slice bo bl bc]] w fun e w'=>e=.returned (.bool false)/\Fr [] w w':=by
 have HF:Hid (Fr [] w (w.alloc (.cells #[.int .u8 k,.int .i64 f,.int .i64 n,.string wk,.string wv,.bool wd,.string key,.string en,.slice bo bl bc] 338))):=Fr.alloc _ _ _;have e0:=eNil;by_cases h1:f=0
 .subst h1;clear h;go_enter func305,ntmps305;go_wp2;go_ret;exact⟨rfl,HF.out⟩
 by_cases h2:n<0
 .clear h;go_enter func305,ntmps305;go_wp2;go_ret;exact⟨rfl,HF.out⟩
 have h3:65536<n:=by omega
 clear h;go_enter func305,ntmps305;go_wp2;go_ret;exact⟨rfl,HF.out⟩
theorem zaie(w:World)(h1:¬f=0)(h2:¬n<0)(h3:¬65536<n)(KE EE NB NW:Bool)(hKE:(key.toList==([]:List UInt8))=KE)(hEE:(en.toList==([]:List UInt8))=EE)(hNB:decide (bl=0)=NB)(hNW:(wk.toList==([]:List UInt8)&&(wv.toList==([]:List UInt8)&&wd==false))=NW) :
  Calls prog 305 #[.agg #[.int .u8 1,.int .i64 f,.int .i64 n,.string wk,.string wv,.bool wd,.string key,.string en,.slice bo bl bc]] w fun e w'=>e=.returned (.bool (KE&&EE&&NB&&decide (0<f)&&decide (0<n)&&decide (okWr wk wv wd)))/\Fr [] w w':=by
 have HF:Hid (Fr [] w (w.alloc (.cells #[.int .u8 1,.int .i64 f,.int .i64 n,.string wk,.string wv,.bool wd,.string key,.string en,.slice bo bl bc] 338))):=Fr.alloc _ _ _;have e0:=eNil;have hq:∀W,(binOp .eql 91 (.agg #[.string wk,.string wv,.bool wd]) (.agg #[.string ⟨#[]⟩,.string ⟨#[]⟩,.bool false])).run prog W=.ok (.bool NW) W:=fun W=>by rw[zec,eNil,hNW]
 have hNB2:decide ((bl:Int)=0)=NB:=by rw[<-hNB,Bool.eq_iff_iff,decide_eq_true_eq,decide_eq_true_eq];omega
 have hNB3:((bl:Int)==0)=NB:=by rw[<-hNB2];rfl
 clear hNW hNB;cases KE<;>cases EE<;>cases NB
 all_goals (
  go_enter func305,ntmps305;go_wp2_with fail
  go_quiet (fail)
  go_wp2_with (first|(refine (zqk wk wv wd _).mono ?_;rintro e w1⟨rfl,hF1⟩)))
 all_goals (first
  |(go_ret;exact⟨by first|(simp[*];done)|(simp[*];intros;omega),HF.out.then (Fr.drewN _ _ _)⟩)
  |(go_ret;exact⟨by simp[*],(HF.out.then (Fr.drewN _ _ _)).then hF1⟩))
theorem zaif(w:World)(h1:¬f=0)(h2:¬n<0)(h3:¬65536<n)(KE EE NB NW:Bool)(hKE:(key.toList==([]:List UInt8))=KE)(hEE:(en.toList==([]:List UInt8))=EE)(hNB:decide (bl=0)=NB)(hNW:(wk.toList==([]:List UInt8)&&(wv.toList==([]:List UInt8)&&wd==false))=NW) :
  Calls prog 305 #[.agg #[.int .u8 2,.int .i64 f,.int .i64 n,.string wk,.string wv,.bool wd,.string key,.string en,.slice bo bl bc]] w fun e w'=>e=.returned (.bool (NW&&NB&&decide (okK9 key)&&EE))/\Fr [] w w':=by
 have HF:Hid (Fr [] w (w.alloc (.cells #[.int .u8 2,.int .i64 f,.int .i64 n,.string wk,.string wv,.bool wd,.string key,.string en,.slice bo bl bc] 338))):=Fr.alloc _ _ _;have e0:=eNil;have hq:∀W,(binOp .eql 91 (.agg #[.string wk,.string wv,.bool wd]) (.agg #[.string ⟨#[]⟩,.string ⟨#[]⟩,.bool false])).run prog W=.ok (.bool NW) W:=fun W=>by rw[zec,eNil,hNW]
 have hNB2:decide ((bl:Int)=0)=NB:=by rw[<-hNB,Bool.eq_iff_iff,decide_eq_true_eq,decide_eq_true_eq];omega
 have hNB3:((bl:Int)==0)=NB:=by rw[<-hNB2];rfl
 clear hNW hNB;cases KE<;>cases NW<;>cases NB
 all_goals (
  go_enter func305,ntmps305;go_wp2_with fail
  go_quiet (fail)
  go_wp2_with (first|(refine (zdf key _).mono ?_;rintro e w1⟨rfl,rfl⟩)))
 all_goals (first
  |(go_ret;exact⟨by first|(simp[*];done)|(simp[*];intros;omega),HF.out.then (Fr.drewN _ _ _)⟩)
  |(go_ret;exact⟨by simp[*],(HF.out.then (Fr.drewN _ _ _)).then hF1⟩))
theorem zaig(w:World)(h1:¬f=0)(h2:¬n<0)(h3:¬65536<n)(KE EE NB NW:Bool)(hKE:(key.toList==([]:List UInt8))=KE)(hEE:(en.toList==([]:List UInt8))=EE)(hNB:decide (bl=0)=NB)(hNW:(wk.toList==([]:List UInt8)&&(wv.toList==([]:List UInt8)&&wd==false))=NW) :
  Calls prog 305 #[.agg #[.int .u8 3,.int .i64 f,.int .i64 n,.string wk,.string wv,.bool wd,.string key,.string en,.slice bo bl bc]] w fun e w'=>e=.returned (.bool (NW&&NB&&decide (key.size<=64)&&decide (en.size<=64)))/\Fr [] w w':=by
 have HF:Hid (Fr [] w (w.alloc (.cells #[.int .u8 3,.int .i64 f,.int .i64 n,.string wk,.string wv,.bool wd,.string key,.string en,.slice bo bl bc] 338))):=Fr.alloc _ _ _;have e0:=eNil;have hq:∀W,(binOp .eql 91 (.agg #[.string wk,.string wv,.bool wd]) (.agg #[.string ⟨#[]⟩,.string ⟨#[]⟩,.bool false])).run prog W=.ok (.bool NW) W:=fun W=>by rw[zec,eNil,hNW]
 have hNB2:decide ((bl:Int)=0)=NB:=by rw[<-hNB,Bool.eq_iff_iff,decide_eq_true_eq,decide_eq_true_eq];omega
 have hNB3:((bl:Int)==0)=NB:=by rw[<-hNB2];rfl
 clear hNW hNB;cases KE<;>cases NW<;>cases NB
 all_goals (
  go_enter func305,ntmps305;go_wp2_with fail
  go_quiet (fail)
  go_wp2_with (first|(with_reducible refine (ziu key _).mono ?_;rintro e w1⟨rfl,rfl⟩)|(with_reducible refine (ziu en _).mono ?_;rintro e w1⟨rfl,rfl⟩)))
 all_goals (first
  |(go_ret;exact⟨by first|(simp[*];done)|(simp[*];intros;omega),HF.out.then (Fr.drewN _ _ _)⟩)
  |(go_ret;exact⟨by simp[*],(HF.out.then (Fr.drewN _ _ _)).then hF1⟩))
theorem zaih(w:World)(h1:¬f=0)(h2:¬n<0)(h3:¬65536<n)(KE EE NB NW:Bool)(hKE:(key.toList==([]:List UInt8))=KE)(hEE:(en.toList==([]:List UInt8))=EE)(hNB:decide (bl=0)=NB)(hNW:(wk.toList==([]:List UInt8)&&(wv.toList==([]:List UInt8)&&wd==false))=NW) :
  Calls prog 305 #[.agg #[.int .u8 4,.int .i64 f,.int .i64 n,.string wk,.string wv,.bool wd,.string key,.string en,.slice bo bl bc]] w fun e w'=>e=.returned (.bool (NW&&(KE&&EE)&&NB))/\Fr [] w w':=by
 have HF:Hid (Fr [] w (w.alloc (.cells #[.int .u8 4,.int .i64 f,.int .i64 n,.string wk,.string wv,.bool wd,.string key,.string en,.slice bo bl bc] 338))):=Fr.alloc _ _ _;have e0:=eNil;have hq:∀W,(binOp .eql 91 (.agg #[.string wk,.string wv,.bool wd]) (.agg #[.string ⟨#[]⟩,.string ⟨#[]⟩,.bool false])).run prog W=.ok (.bool NW) W:=fun W=>by rw[zec,eNil,hNW]
 have hNB2:decide ((bl:Int)=0)=NB:=by rw[<-hNB,Bool.eq_iff_iff,decide_eq_true_eq,decide_eq_true_eq];omega
 have hNB3:((bl:Int)==0)=NB:=by rw[<-hNB2];rfl
 clear hNW hNB;cases KE<;>cases EE<;>cases NW<;>cases NB
 all_goals (
  go_enter func305,ntmps305;go_wp2_with fail
  go_quiet (fail)
  go_wp2_with (fail))
 all_goals (first
  |(go_ret;exact⟨by first|(simp[*];done)|(simp[*];intros;omega),HF.out.then (Fr.drewN _ _ _)⟩)
  |(go_ret;exact⟨by simp[*],(HF.out.then (Fr.drewN _ _ _)).then hF1⟩))
theorem zaii(w:World)(h1:¬f=0)(h2:¬n<0)(h3:¬65536<n)(KE EE NB NW:Bool)(hKE:(key.toList==([]:List UInt8))=KE)(hEE:(en.toList==([]:List UInt8))=EE)(hNB:decide (bl=0)=NB)(hNW:(wk.toList==([]:List UInt8)&&(wv.toList==([]:List UInt8)&&wd==false))=NW)(RS:Bool)(hI:IRs w bo ns)(hL:bl=ns.length)(hRS:RS=true↔Ab n ns) :
  Calls prog 305 #[.agg #[.int .u8 5,.int .i64 f,.int .i64 n,.string wk,.string wv,.bool wd,.string key,.string en,.slice bo bl bc]] w fun e w'=>e=.returned (.bool (NW&&(KE&&EE)&&RS))/\Fr [] w w':=by
 have HF:Hid (Fr [] w (w.alloc (.cells #[.int .u8 5,.int .i64 f,.int .i64 n,.string wk,.string wv,.bool wd,.string key,.string en,.slice bo bl bc] 338))):=Fr.alloc _ _ _;have e0:=eNil;have hq:∀W,(binOp .eql 91 (.agg #[.string wk,.string wv,.bool wd]) (.agg #[.string ⟨#[]⟩,.string ⟨#[]⟩,.bool false])).run prog W=.ok (.bool NW) W:=fun W=>by rw[zec,eNil,hNW]
 have hNB2:decide ((bl:Int)=0)=NB:=by rw[<-hNB,Bool.eq_iff_iff,decide_eq_true_eq,decide_eq_true_eq];omega
 have hNB3:((bl:Int)==0)=NB:=by rw[<-hNB2];rfl
 have HRi:Hid (∀W,Fr [] (w.alloc (.cells #[.int .u8 5,.int .i64 f,.int .i64 n,.string wk,.string wv,.bool wd,.string key,.string en,.slice bo bl bc] 338)) W->Calls prog 315 #[.int .i64 n,.slice bo bl bc] W fun e w1=>e=.returned (.bool RS)/\W=w1):=fun W hf=>zyd n bo bl bc ns RS W (hI.keep (HF.out.then hf)) hL hRS;clear hI hL hRS;clear hNW hNB;cases KE<;>cases EE<;>cases NW
 all_goals (
  go_enter func305,ntmps305;go_wp2_with fail
  go_quiet (fail)
  go_wp2_with (first|(with_reducible refine (HRi.out _ (Fr.drewN _ _ _)).mono ?_;rintro e w1⟨rfl,rfl⟩)))
 all_goals (first
  |(go_ret;exact⟨by first|(simp[*];done)|(simp[*];intros;omega),HF.out.then (Fr.drewN _ _ _)⟩)
  |(go_ret;exact⟨by simp[*],(HF.out.then (Fr.drewN _ _ _)).then hF1⟩))
theorem zaij(w:World)(h1:¬f=0)(h2:¬n<0)(h3:¬65536<n)(KE EE NB NW:Bool)(hKE:(key.toList==([]:List UInt8))=KE)(hEE:(en.toList==([]:List UInt8))=EE)(hNB:decide (bl=0)=NB)(hNW:(wk.toList==([]:List UInt8)&&(wv.toList==([]:List UInt8)&&wd==false))=NW)(g1:¬k=1)(g2:¬k=2)(g3:¬k=3)(g4:¬k=4)(g5:¬k=5) :
  Calls prog 305 #[.agg #[.int .u8 k,.int .i64 f,.int .i64 n,.string wk,.string wv,.bool wd,.string key,.string en,.slice bo bl bc]] w fun e w'=>e=.returned (.bool (false))/\Fr [] w w':=by
 have HF:Hid (Fr [] w (w.alloc (.cells #[.int .u8 k,.int .i64 f,.int .i64 n,.string wk,.string wv,.bool wd,.string key,.string en,.slice bo bl bc] 338))):=Fr.alloc _ _ _;have e0:=eNil;have hq:∀W,(binOp .eql 91 (.agg #[.string wk,.string wv,.bool wd]) (.agg #[.string ⟨#[]⟩,.string ⟨#[]⟩,.bool false])).run prog W=.ok (.bool NW) W:=fun W=>by rw[zec,eNil,hNW]
 have hNB2:decide ((bl:Int)=0)=NB:=by rw[<-hNB,Bool.eq_iff_iff,decide_eq_true_eq,decide_eq_true_eq];omega
 have hNB3:((bl:Int)==0)=NB:=by rw[<-hNB2];rfl
 clear hNW hNB;cases KE;all_goals (
  go_enter func305,ntmps305;go_wp2_with fail
  go_quiet (fail)
  go_wp2_with (fail))
 all_goals (first
  |(go_ret;exact⟨by first|(simp[*];done)|(simp[*];intros;omega),HF.out.then (Fr.drewN _ _ _)⟩)
  |(go_ret;exact⟨by simp[*],(HF.out.then (Fr.drewN _ _ _)).then hF1⟩))
theorem zql(x:Rv)(ns:List Int)(B:Bool)(w:World)(h:RqB w x ns)(hB:B=true↔okR (x.q ns)):Calls prog 305 #[x.v] w fun e w'=>e=.returned (.bool B)/\Fr [] w w':=by
 obtain⟨k,f,n,wk,wv,wd,key,en,bo,bl,bc⟩:=x;have hlen:bl=ns.length:=h.len;have hI:IRs w bo ns:=h.is;by_cases h0:f=0\/n<0\/65536<n
 .have hBf:B=false:=by
   cases B with
   |false=>rfl
   |true=>obtain⟨a1,a2,a3,_⟩:=hB.1 rfl;simp only[Rv.q]at a1 a2 a3;omega
  subst hBf;exact zaid w h0
 have h1:¬f=0:=by omega
 have h2:¬n<0:=by omega
 have h3:¬65536<n:=by omega
 have h2':0<=n:=by omega
 have h3':n<=65536:=by omega
 have hnb:decide (bl=0)=decide (ns=[]):=by
  rw[Bool.eq_iff_iff,decide_eq_true_eq,decide_eq_true_eq,hlen];exact List.length_eq_zero_iff
 have hnw:(wk.toList==([]:List UInt8)&&(wv.toList==([]:List UInt8)&&wd==false))=decide (noWr wk wv wd):=by
  rw[zbr,zbr];cases wd<;>simp[noWr]
 obtain⟨RS,hRS⟩:∃RS:Bool,RS=true↔Ab n ns:=by
  by_cases hh:Ab n ns
  .exact⟨true,fun _=>hh,fun _=>rfl⟩
  exact⟨false,fun e=>(by cases e),fun e=>absurd e hh⟩
 have fin:∀R:Bool,(R=true↔okR ⟨k,f,n,wk,wv,wd,key,en,ns⟩)->R=B:=fun R hR=>by
  rw[Bool.eq_iff_iff,hR];exact hB.symm
 by_cases g1:k=1
 .subst g1;rw[<-fin _ ?_]
  .exact zaie w h1 h2 h3 _ _ _ _ (zbr key) (zbr en) hnb hnw
  simp[okR,h1,h2',h3',and_assoc]
 by_cases g2:k=2
 .subst g2;rw[<-fin _ ?_]
  .exact zaif w h1 h2 h3 _ _ _ _ (zbr key) (zbr en) hnb hnw
  simp[okR,h1,h2',h3',and_assoc]
 by_cases g3:k=3
 .subst g3;rw[<-fin _ ?_]
  .exact zaig w h1 h2 h3 _ _ _ _ (zbr key) (zbr en) hnb hnw
  simp[okR,h1,h2',h3',and_assoc]
 by_cases g4:k=4
 .subst g4;rw[<-fin _ ?_]
  .exact zaih w h1 h2 h3 _ _ _ _ (zbr key) (zbr en) hnb hnw
  simp[okR,h1,h2',h3',and_assoc]
 by_cases g5:k=5
 .subst g5;rw[<-fin _ ?_]
  .exact zaii w h1 h2 h3 _ _ _ _ (zbr key) (zbr en) hnb hnw RS hI hlen hRS
  simp[okR,hRS,h1,h2',h3',and_assoc]
 rw[<-fin _ ?_]
 .exact zaij w h1 h2 h3 _ _ _ _ (zbr key) (zbr en) hnb hnw g1 g2 g3 g4 g5
 simp[okR,g1,g2,g3,g4,g5]
end
end Go.Proofs.YtojjdnjfaelnfaaGreatDoor.O
