/- Contracts and lemmas. -/
import Derived.Test.YtojjdnjfaelnfaaGreatDoorGp1
import Derived.Test.YtojjdnjfaelnfaaGreatDoorGp3
set_option maxHeartbeats 8000000
set_option maxRecDepth 100000
set_option linter.unusedSimpArgs false
set_option linter.unusedVariables false
namespace Go.Proofs.YtojjdnjfaelnfaaGreatDoor.Dz
open Go.ChangeShapes Go.WideShapes Go.ChangeAt Go.RowKit Go.Lib Go.Proofs.Tryz
def D0(w:World)(g:Nat)(C:Int):Prop:=w.heap[g]? = some (.cells #[.bool true,.int .i64 C,.slice none 0 0,.slice none 0 0,.int .i64 (-1),.bool false,.int .i64 0] 214 (0,0))
theorem D0.keep{S:List Nat}{w w':World}{g:Nat}{C:Int}(h:D0 w g C)(hf:Fr S w w')(hn:g∉S):D0 w' g C:=hf.keep h hn
section
variable{w:World}{g:Nat}{C:Int}
theorem D0.c0(h:D0 w g C):w.cell? ⟨g,0,none⟩=some (.bool true):=by rw[crw h];rfl
theorem D0.c2(h:D0 w g C):w.cell? ⟨g,2,none⟩=some (.slice none 0 0):=by rw[crw h];rfl
theorem D0.c3(h:D0 w g C):w.cell? ⟨g,3,none⟩=some (.slice none 0 0):=by rw[crw h];rfl
end
theorem dnew_ok(n:Int)(w:World)(h0:0<=n)(h1:n<=16777216):Calls prog 102 #[.int .i64 n] w fun e w'=>e=.returned (.tuple #[.pointer (some ⟨w.heap.size,0,none⟩),.int .i64 0])/\D0 w' w.heap.size n/\Fr [] w w':=by
 go_enter func102,ntmps102;go_wp2;go_ret2;exact⟨rfl,heap_alloc_new w _,Fr.alloc _ _ _⟩
theorem zia(g:Nat)(w:World)(h:w.cell? ⟨g,0,none⟩=some (.bool true)):Calls prog 167 #[.pointer (some ⟨g,0,none⟩)] w fun e w'=>e=.returned (.bool true)/\w=w':=by
 go_enter func167,ntmps167;go_wp2;go_ret;exact⟨rfl,rfl⟩
theorem zrm(p:Value)(s:Int)(w:World)(h:s=0\/s=1):Calls prog 168 #[p,.int .i64 s] w fun e w'=>e=.returned (.bool true)/\w=w':=by
 rcases h with rfl|rfl
 .go_enter func168,ntmps168;go_wp2;go_ret;exact⟨rfl,rfl⟩
 go_enter func168,ntmps168;go_wp2;go_ret;exact⟨rfl,rfl⟩
theorem zagq(p:Value)(w:World):Calls prog 168 #[p,.int .i64 (-1)] w fun e w'=>e=.returned (.bool false)/\w=w':=by
 go_enter func168,ntmps168;go_wp2;go_ret;exact⟨rfl,rfl⟩
section
variable{w:World}{g:Nat}{C:Int}
theorem zaco(h:D0 w g C):Calls prog 147 #[.pointer (some ⟨g,0,none⟩),.int .i64 (-1)] w fun e w'=>e=.returned (.tuple #[.slice none 0 0,.int .i64 1])/\w=w':=by
 have HT:Hid (Calls ..):=zia g w h.c0;have HS:Hid (Calls ..):=zagq (.pointer (some ⟨g,0,none⟩)) w;go_enter func147,ntmps147;go_wp2_with fail
 refine Calls.mono HT.out ?_;rintro e w'⟨rfl,rfl⟩;go_wp2_with fail
 refine Calls.mono HS.out ?_;rintro e w'⟨rfl,rfl⟩;go_wp2;go_ret2;exact⟨rfl,rfl⟩
theorem zagr(h:D0 w g C):Calls prog 147 #[.pointer (some ⟨g,0,none⟩),.int .i64 0] w fun e w'=>e=.returned (.tuple #[.slice none 0 0,.int .i64 0])/\w=w':=by
 have HT:Hid (Calls ..):=zia g w h.c0;have HS:Hid (Calls ..):=zrm (.pointer (some ⟨g,0,none⟩)) 0 w (Or.inl rfl);have c2:=h.c2;clear h;go_enter func147,ntmps147;go_wp2_with fail
 refine Calls.mono HT.out ?_;rintro e w'⟨rfl,rfl⟩;go_wp2_with fail
 refine Calls.mono HS.out ?_;rintro e w'⟨rfl,rfl⟩;go_wp2;go_ret2;exact⟨rfl,rfl⟩
theorem zags(h:D0 w g C):Calls prog 147 #[.pointer (some ⟨g,0,none⟩),.int .i64 1] w fun e w'=>e=.returned (.tuple #[.slice none 0 0,.int .i64 0])/\w=w':=by
 have HT:Hid (Calls ..):=zia g w h.c0;have HS:Hid (Calls ..):=zrm (.pointer (some ⟨g,0,none⟩)) 1 w (Or.inr rfl);have c3:=h.c3;clear h;go_enter func147,ntmps147;go_wp2_with fail
 refine Calls.mono HT.out ?_;rintro e w'⟨rfl,rfl⟩;go_wp2_with fail
 refine Calls.mono HS.out ?_;rintro e w'⟨rfl,rfl⟩;go_wp2;go_ret2;exact⟨rfl,rfl⟩
theorem isDisk_any(h:D0 w g C):Calls prog 124 #[.pointer (some ⟨g,0,none⟩)] w fun e w'=>e=.returned (.bool true)/\w=w':=by
 have HR:Hid (Calls ..):=zaco h;clear h;go_enter func124,ntmps124;go_wp2_with fail
 refine Calls.mono HR.out ?_;rintro e w1⟨rfl,rfl⟩;go_wp2;go_ret;exact⟨rfl,rfl⟩
end
theorem ztd{fn:Func}{p u v:Tmp}{ty:TypeId}(h:fn.results= #[.cell p ty,.tmp u,.tmp v])(tmps:Array Value)(P:Program)(w:World)(g:Nat)(x:Value)(hp:tmps.getD p undef=.pointer (some ⟨g,0,none⟩))(hld:(loadVar ty ⟨g,0,none⟩).run P w=.ok x w) :
  (results fn tmps).run P w=.ok (.tuple #[x,tmps.getD u undef,tmps.getD v undef]) w:=by
 simp only[results,h];simp[Sem.run_bind,Result.andThen,<-Array.getD_eq_getD_getElem?,hp,asAddr,hld]
theorem zwd{fn:Func}{p a b c d:Tmp}{ty:TypeId}(h:fn.results= #[.cell p ty,.tmp a,.tmp b,.tmp c,.tmp d])(tmps:Array Value)(P:Program)(w:World)(g:Nat)(x:Value)(hp:tmps.getD p undef=.pointer (some ⟨g,0,none⟩))(hld:(loadVar ty ⟨g,0,none⟩).run P w=.ok x w) :
  (results fn tmps).run P w=.ok (.tuple #[x,tmps.getD a undef,tmps.getD b undef,tmps.getD c undef,tmps.getD d undef]) w:=by
 simp only[results,h];simp[Sem.run_bind,Result.andThen,<-Array.getD_eq_getD_getElem?,hp,asAddr,hld]
structure SB(w:World)(b:Nat):Prop where
 box:w.heap[b]? = some (.cells #[.int .i64 0,.slice none 0 0,.slice none 0 0] 218 (0,0))
section
variable{w w':World}{b:Nat}
theorem SB.c0(h:SB w b):w.cell? ⟨b,0,none⟩=some (.int .i64 0):=by rw[crw h.box];rfl
theorem SB.c1(h:SB w b):w.cell? ⟨b,1,none⟩=some (.slice none 0 0):=by rw[crw h.box];rfl
theorem SB.c2(h:SB w b):w.cell? ⟨b,2,none⟩=some (.slice none 0 0):=by rw[crw h.box];rfl
theorem SB.fz(h:SB w b)(j:Nat):w.frozen? ⟨b,j,none⟩=false:=by simp[World.frozen?,h.box]
theorem SB.keep{S:List Nat}(h:SB w b)(hf:Fr S w w')(hn:b∉S):SB w' b:=⟨hf.keep h.box hn⟩
theorem SB.set(h:SB w b):SB (((w.setCell ⟨b,0,none⟩ (.int .i64 0)).setCell ⟨b,1,none⟩ (.slice none 0 0)).setCell ⟨b,2,none⟩ (.slice none 0 0)) b/\Fr [b] w (((w.setCell ⟨b,0,none⟩ (.int .i64 0)).setCell ⟨b,1,none⟩ (.slice none 0 0)).setCell ⟨b,2,none⟩ (.slice none 0 0)):=
 ⟨⟨Ap.row_setCell _ (Ap.row_setCell _ (Ap.row_setCell _ h.box))⟩,(Fr.set w ⟨b,0,none⟩ _ (by simp)).then ((Fr.set _ ⟨b,1,none⟩ _ (by simp)).then (Fr.set _ ⟨b,2,none⟩ _ (by simp)))⟩
theorem SB.load(h:SB w b):(loadVar 218 ⟨b,0,none⟩).run prog w=.ok (.agg #[.int .i64 0,.slice none 0 0,.slice none 0 0]) w:=
 run_loadVar_row (P:=prog) _ b _ 218 _ _ (.struct (prog.fieldsOf 218)) h.box (by kernel_rfl) rfl (by kernel_rfl)
end
theorem zwe(w:World):Calls prog 148 #[.slice none 0 0] w fun e w'=>e=.returned (.tuple #[.agg #[.int .i64 0,.slice none 0 0,.slice none 0 0],.int .i64 0,.bool false])/\Fr [] w w':=by
 obtain⟨w1,HW1⟩:∃w1,Hid (w.alloc (.cells #[.int .i64 0,.slice none 0 0,.slice none 0 0] 218)=w1):=⟨_,rfl⟩;obtain⟨A,HA⟩:∃A,Hid (w.heap.size=A):=⟨_,rfl⟩;have hF1:Fr [] w w1:=by rw[<-HW1.out];exact Fr.alloc [] w _
 have hs1:SB w1 A:=⟨by rw[<-HW1.out,<-HA.out];exact heap_alloc_new w _⟩;obtain⟨k1,k2⟩:=hs1.set;have HL:Hid ((loadVar _ _).run _ _=_):=k1.load;have HF:Hid (Fr [] w _):=hF1.on k2 (fun x hx=>by simp at hx;have:=HA.out;omega);have a0:=hs1.c0;have a1:=hs1.c1;have a2:=hs1.c2;have b0:=hs1.fz 0;have b1:=hs1.fz 1;have b2:=hs1.fz 2;clear hs1 hF1 k1 k2;go_enter func148,ntmps148;go_upto_region 1 with fail
 rw[HW1.out,HA.out];clear HW1 HA;go_wp2;refine bodyPost_ret (v:=.tuple #[.agg #[.int .i64 0,.slice none 0 0,.slice none 0 0],.int .i64 0,.bool false]) (by rw[ztd rfl _ _ _ A _ rfl HL.out];rfl) rfl ?_;exact⟨rfl,HF.out⟩
theorem newest_nil{w:World}{g:Nat}{C:Int}(h:D0 w g C):Calls prog 125 #[.pointer (some ⟨g,0,none⟩)] w fun e w'=>e=.returned (.tuple #[.agg #[.int .i64 0,.slice none 0 0,.slice none 0 0],.int .i64 0,.int .i64 0,.bool false,.int .i64 0])/\Fr [] w w':=by
 obtain⟨w1,HW1⟩:∃w1,Hid (w.alloc (.cells #[.int .i64 0,.slice none 0 0,.slice none 0 0] 218)=w1):=⟨_,rfl⟩;obtain⟨A,HA⟩:∃A,Hid (w.heap.size=A):=⟨_,rfl⟩;have hF1:Fr [] w w1:=by rw[<-HW1.out];exact Fr.alloc [] w _
 have hs1:SB w1 A:=⟨by rw[<-HW1.out,<-HA.out];exact heap_alloc_new w _⟩;have HD:Hid (∀W,Fr [] w1 W->D0 W g C):=fun W hf=>h.keep (hF1.then hf) (by simp);have HS:Hid (∀W,Fr [] w1 W->SB W A):=fun W hf=>hs1.keep hf (by simp);have HF1:Hid (Fr [] w w1/\w.heap.size<=A):=⟨hF1,by have:=HA.out;omega⟩;clear hs1 hF1 h;go_enter func125,ntmps125;go_upto_region 1 with fail
 rw[HW1.out,HA.out];clear HW1 HA;go_wp2;go_loopw [3,4,5,13] (fun ga sa oa ii wr=>∃(i:Nat),ga=.int .i64 0/\sa=.int .i64 0/\oa=.bool false/\ii=.int .i64 i/\i<=2/\Hid (Fr [] w1 wr)) (fun ga sa oa ii _=>2-(RowKit.intOf ii).toNat)
 case atStart=>exact⟨0,rfl,rfl,rfl,rfl,Nat.zero_le _,Fr.refl _ _⟩
 obtain⟨i,rfl,rfl,rfl,rfl,hi2,HFr⟩:=hrel;by_cases hi:i<2
 .have hlt:(i:Int)<2:=by omega
  have HRd:Hid (Calls prog 147 #[.pointer (some ⟨g,0,none⟩),.int .i64 (i:Int)] wr fun e w'=>e=.returned (.tuple #[.slice none 0 0,.int .i64 0])/\wr=w'):=by
   rcases (show i=0\/i=1 by omega) with rfl|rfl
   .exact (zagr (HD.out _ HFr.out)).mono fun e w' hh=>hh
   exact (zags (HD.out _ HFr.out)).mono fun e w' hh=>hh
  have HRn:Hid (Calls ..):=zwe wr;go_wp2_with fail
  refine Calls.mono HRd.out ?_;rintro e w2⟨rfl,rfl⟩;go_wp2_with fail
  refine Calls.mono HRn.out ?_;rintro e w3⟨rfl,hf3⟩;have HF3:Hid (Fr [] w1 (w3.alloc (.cells #[.int .i64 0,.slice none 0 0,.slice none 0 0] 218))):=(HFr.out.then hf3).then (Fr.alloc _ _ _);clear hf3 HRd HRn;go_wp2_with fail
  go_roundw;case rel=>exact⟨i+1,rfl,rfl,rfl,by simp,by omega,HF3⟩
  case measure=>simp[RowKit.intOf];omega
 have hlt:¬(i:Int)<2:=by omega
 have hsb:=HS.out _ HFr.out;have a0:=hsb.c0;have a1:=hsb.c1;have a2:=hsb.c2;have b0:=hsb.fz 0;have b1:=hsb.fz 1;have b2:=hsb.fz 2;obtain⟨k1,k2⟩:=hsb.set;have HL:Hid ((loadVar _ _).run _ _=_):=k1.load;have HF:Hid (Fr [] w _):=(HF1.out.1.then HFr.out).on k2 (fun x hx=>by simp at hx;have:=HF1.out.2;omega);clear hsb k1 k2;go_wp2;refine bodyPost_ret (v:=.tuple #[.agg #[.int .i64 0,.slice none 0 0,.slice none 0 0],.int .i64 0,.int .i64 0,.bool false,.int .i64 0]) (by rw[zwd rfl _ _ _ A _ rfl HL.out];rfl) rfl ?_;exact⟨rfl,HF.out⟩
end Go.Proofs.YtojjdnjfaelnfaaGreatDoor.Dz
