/- Contracts and lemmas. -/
import Derived.Test.YtakbodlicfmkjaaGreatGp25
import Derived.Test.YtakbodlicfmkjaaGreatGp24
set_option maxHeartbeats 2000000
set_option maxRecDepth 100000
set_option linter.unusedSimpArgs false
set_option linter.unusedVariables false
namespace Go.Proofs.YtakbodlicfmkjaaGreat.O
open Go.ChangeShapes Go.WideShapes Go.ChangeAt Go.RowKit Go.Lib
theorem zwb(Q:Nat):(#[.nilFunc,.func (Fn.func 310) #[] #[.pointer (some ⟨Q,0,none⟩)],.func (Fn.func 312) #[] #[.pointer (some ⟨Q,0,none⟩)],.func (Fn.func 314) #[] #[.pointer (some ⟨Q,0,none⟩)],.func (Fn.func 316) #[] #[.pointer (some ⟨Q,0,none⟩)],.func (Fn.func 318) #[] #[.pointer (some ⟨Q,0,none⟩)]]:Array Value).all (·.oneCell')=true:=by simp[Value.oneCell',Value.nilFunc]
theorem zig(s:Option Addr)(w:World):Calls Tryz.prog 308 #[.pointer s] w fun e w'=>∃Q,e=.returned (.agg #[.nilFunc,.func (Fn.func 310) #[] #[.pointer (some ⟨Q,0,none⟩)],.func (Fn.func 312) #[] #[.pointer (some ⟨Q,0,none⟩)],.func (Fn.func 314) #[] #[.pointer (some ⟨Q,0,none⟩)],.func (Fn.func 316) #[] #[.pointer (some ⟨Q,0,none⟩)],.func (Fn.func 318) #[] #[.pointer (some ⟨Q,0,none⟩)]])/\w.heap.size<=Q/\w'.heap[Q]? = some (.cells #[.pointer s] 184 (0,0))/\Fr [] w w':=by
 have hQ:=(Fr.alloc [] (w.alloc (.cells #[.pointer s] 184)) (.cells #[.nilFunc,.nilFunc,.nilFunc,.nilFunc,.nilFunc,.nilFunc] 405)).keep (heap_alloc_new w (.cells #[.pointer s] 184)) (by simp);have hr:((w.alloc (.cells #[.pointer s] 184)).alloc (.cells #[.nilFunc,.nilFunc,.nilFunc,.nilFunc,.nilFunc,.nilFunc] 405)).heap[w.heap.size+1]? = some (.cells #[.nilFunc,.nilFunc,.nilFunc,.nilFunc,.nilFunc,.nilFunc] 405 (0,0)):=by
  rw[show w.heap.size+1=(w.alloc (.cells #[.pointer s] 184)).heap.size by simp];exact heap_alloc_new _ _
 have HF:Hid (Fr [] w ((w.alloc (.cells #[.pointer s] 184)).alloc (.cells #[.nilFunc,.nilFunc,.nilFunc,.nilFunc,.nilFunc,.nilFunc] 405))):=(Fr.alloc _ _ _).then (Fr.alloc _ _ _);have HQ:=(show Hid _ from hQ);clear hQ;go_enter Tryz.func308,Tryz.ntmps308;go_wp2_with (first
  |(refine zak rfl 405 _ _ rfl (w.heap.size+1) #[.nilFunc,.func (Fn.func 310) #[] #[.pointer (some ⟨w.heap.size,0,none⟩)],.func (Fn.func 312) #[] #[.pointer (some ⟨w.heap.size,0,none⟩)],.func (Fn.func 314) #[] #[.pointer (some ⟨w.heap.size,0,none⟩)],.func (Fn.func 316) #[] #[.pointer (some ⟨w.heap.size,0,none⟩)],.func (Fn.func 318) #[] #[.pointer (some ⟨w.heap.size,0,none⟩)]] rfl rfl 405 _ hr (by kernel_rfl) rfl (zwb _) ?_;intro w2 HR2 hf2;go_frame)
  |fail)
 refine bodyPost_ret (zbk rfl _ _ _ _ _ rfl (run_loadVar_row (P:=Tryz.prog) _ _ _ 405 _ _ (.array 6 404) HR2.out (by kernel_rfl) rfl (by kernel_rfl))) rfl ?_;refine⟨w.heap.size,rfl,Nat.le_refl _,hf2.keep HQ.out (by simp),HF.out.on hf2 (by intro y hy;simp at hy;omega)⟩
theorem zfw(t:Int)(ok:Bool)(eo:Option Addr)(el ec:Nat)(ho:Option Addr)(hl hc:Nat)(c:Int):(#[.int .i64 t,.bool ok,.slice eo el ec,.slice ho hl hc,.int .i64 c]:Array Value).all (·.oneCell')=true:=by simp[Value.oneCell']
theorem zcw{w:World}{g:Nat}{t:Int}{ok:Bool}{eo:Option Addr}{el ec:Nat}{ho:Option Addr}{hl hc:Nat}{c:Int}(h:w.heap[g]? = some (.cells #[.int .i64 t,.bool ok,.slice eo el ec,.slice ho hl hc,.int .i64 c] 398 (0,0))):(loadVar 398 ⟨g,0,none⟩).run Tryz.prog w=.ok (.agg #[.int .i64 t,.bool ok,.slice eo el ec,.slice ho hl hc,.int .i64 c]) w:=
 run_loadVar_row (P:=Tryz.prog) _ g _ 398 _ _ (.struct (Tryz.prog.fieldsOf 398)) h (by kernel_rfl) rfl (by kernel_rfl)
section
variable{k f n:Int}{wk wv:ByteArray}{wd:Bool}{key en:ByteArray}{bo:Option Addr}{bl bc:Nat}{s:Option Addr}{q:Nat}{w:World}
def dW(w:World)(k f n:Int)(wk wv:ByteArray)(wd:Bool)(key en:ByteArray)(bo:Option Addr)(bl bc:Nat):World:=(w.alloc (.cells #[.int .u8 k,.int .i64 f,.int .i64 n,.string wk,.string wv,.bool wd,.string key,.string en,.slice bo bl bc] 278)).alloc (.cells #[.int .i64 0,.bool false,.slice none 0 0,.slice none 0 0,.int .i64 0] 398)
theorem dW_fr:Fr [] w (dW w k f n wk wv wd key en bo bl bc):=(Fr.alloc _ _ _).then (Fr.alloc _ _ _)
theorem zlm:(dW w k f n wk wv wd key en bo bl bc).heap[w.heap.size+1]? = some (.cells #[.int .i64 0,.bool false,.slice none 0 0,.slice none 0 0,.int .i64 0] 398 (0,0)):=by
 unfold dW;rw[show w.heap.size+1=(w.alloc (.cells #[.int .u8 k,.int .i64 f,.int .i64 n,.string wk,.string wv,.bool wd,.string key,.string en,.slice bo bl bc] 278)).heap.size by simp];exact heap_alloc_new _ _
theorem zwc(hc:w.cell? ⟨q,0,none⟩=some (.pointer s))(Qi:Bool->Int->World->Prop)(hI:Calls Tryz.prog 311 #[.pointer s,.int .i64 n,.agg #[.string wk,.string wv,.bool wd]] (dW w k f n wk wv wd key en bo bl bc) fun e w'=>∃(ok:Bool) (c:Int),e=.returned (.tuple #[.bool ok,.int .i64 c])/\Qi ok c w'/\w'.heap[w.heap.size+1]? = some (.cells #[.int .i64 0,.bool false,.slice none 0 0,.slice none 0 0,.int .i64 0] 398 (0,0))) :
  Calls Tryz.prog 310 #[.agg #[.int .u8 k,.int .i64 f,.int .i64 n,.string wk,.string wv,.bool wd,.string key,.string en,.slice bo bl bc],.pointer (some ⟨q,0,none⟩)] w fun e w2=>∃(ok:Bool)(c:Int)(w':World),e=.returned (.agg #[.int .i64 0,.bool ok,.slice none 0 0,.slice none 0 0,.int .i64 0])/\Qi ok c w'/\Fr [w.heap.size+1] w' w2:=by
 have HI:Hid (Calls ..):=hI;have hc2:=Lib.cell?_alloc_some (.cells #[.int .i64 0,.bool false,.slice none 0 0,.slice none 0 0,.int .i64 0] 398) (Lib.cell?_alloc_some (.cells #[.int .u8 k,.int .i64 f,.int .i64 n,.string wk,.string wv,.bool wd,.string key,.string en,.slice bo bl bc] 278) hc);have HS:Hid (w.heap.size+2<=(dW w k f n wk wv wd key en bo bl bc).heap.size):=by show _<=_;unfold dW;simp
 clear hI;unfold dW at HI;go_enter Tryz.func310,Tryz.ntmps310;go_wp2_with fail
 refine Calls.mono HI.out ?_;rintro e w1⟨ok,c,rfl,hQ,hr⟩;have HQ:Hid (Qi ok c w1):=hQ;clear HI hQ hc2;go_wp2_with (first
  |(refine zak rfl 398 _ _ rfl (w.heap.size+1) #[.int .i64 0,.bool ok,.slice none 0 0,.slice none 0 0,.int .i64 0] rfl rfl 398 _ hr (by kernel_rfl) rfl (zfw _ _ _ _ _ _ _ _ _) ?_;intro w2 HR2 hf2;go_frame)
  |fail)
 refine bodyPost_ret (zbk rfl _ _ _ _ _ rfl (zcw HR2.out)) rfl ?_;exact⟨ok,c,w1,rfl,HQ.out,hf2⟩
theorem zwd(hc:w.cell? ⟨q,0,none⟩=some (.pointer s))(Qi:Option Addr->Nat->Nat->World->Prop)(hI:Calls Tryz.prog 315 #[.pointer s,.string key,.string en,.int .i64 n] (dW w k f n wk wv wd key en bo bl bc) fun e w'=>∃(ro:Option Addr) (N:Nat) (rc:Nat),e=.returned (.slice ro N rc)/\Qi ro N rc w'/\w'.heap[w.heap.size+1]? = some (.cells #[.int .i64 0,.bool false,.slice none 0 0,.slice none 0 0,.int .i64 0] 398 (0,0))) :
  Calls Tryz.prog 314 #[.agg #[.int .u8 k,.int .i64 f,.int .i64 n,.string wk,.string wv,.bool wd,.string key,.string en,.slice bo bl bc],.pointer (some ⟨q,0,none⟩)] w fun e w2=>∃(ro:Option Addr)(N:Nat)(rc:Nat)(w':World),e=.returned (.agg #[.int .i64 0,.bool true,.slice ro N rc,.slice none 0 0,.int .i64 0])/\Qi ro N rc w'/\Fr [w.heap.size+1] w' w2:=by
 have HI:Hid (Calls ..):=hI;have hc2:=Lib.cell?_alloc_some (.cells #[.int .i64 0,.bool false,.slice none 0 0,.slice none 0 0,.int .i64 0] 398) (Lib.cell?_alloc_some (.cells #[.int .u8 k,.int .i64 f,.int .i64 n,.string wk,.string wv,.bool wd,.string key,.string en,.slice bo bl bc] 278) hc);have HS:Hid (w.heap.size+2<=(dW w k f n wk wv wd key en bo bl bc).heap.size):=by show _<=_;unfold dW;simp
 clear hI;unfold dW at HI;go_enter Tryz.func314,Tryz.ntmps314;go_wp2_with fail
 refine Calls.mono HI.out ?_;rintro e w1⟨ro,N,rc,rfl,hQ,hr⟩;have HQ:Hid (Qi ro N rc w1):=hQ;clear HI hQ hc2;go_wp2_with (first
  |(refine zak rfl 398 _ _ rfl (w.heap.size+1) #[.int .i64 0,.bool true,.slice ro N rc,.slice none 0 0,.int .i64 0] rfl rfl 398 _ hr (by kernel_rfl) rfl (zfw _ _ _ _ _ _ _ _ _) ?_;intro w2 HR2 hf2;go_frame)
  |fail)
 refine bodyPost_ret (zbk rfl _ _ _ _ _ rfl (zcw HR2.out)) rfl ?_;exact⟨ro,N,rc,w1,rfl,HQ.out,hf2⟩
theorem zwe(hc:w.cell? ⟨q,0,none⟩=some (.pointer s))(Qi:Int->World->Prop)(hI:Calls Tryz.prog 317 #[.pointer s,.int .i64 n] (dW w k f n wk wv wd key en bo bl bc) fun e w'=>∃(c:Int),e=.returned (.int .i64 c)/\Qi c w'/\w'.heap[w.heap.size+1]? = some (.cells #[.int .i64 0,.bool false,.slice none 0 0,.slice none 0 0,.int .i64 0] 398 (0,0))) :
  Calls Tryz.prog 316 #[.agg #[.int .u8 k,.int .i64 f,.int .i64 n,.string wk,.string wv,.bool wd,.string key,.string en,.slice bo bl bc],.pointer (some ⟨q,0,none⟩)] w fun e w2=>∃(c:Int)(w':World),e=.returned (.agg #[.int .i64 0,.bool true,.slice none 0 0,.slice none 0 0,.int .i64 c])/\Qi c w'/\Fr [w.heap.size+1] w' w2:=by
 have HI:Hid (Calls ..):=hI;have hc2:=Lib.cell?_alloc_some (.cells #[.int .i64 0,.bool false,.slice none 0 0,.slice none 0 0,.int .i64 0] 398) (Lib.cell?_alloc_some (.cells #[.int .u8 k,.int .i64 f,.int .i64 n,.string wk,.string wv,.bool wd,.string key,.string en,.slice bo bl bc] 278) hc);have HS:Hid (w.heap.size+2<=(dW w k f n wk wv wd key en bo bl bc).heap.size):=by show _<=_;unfold dW;simp
 clear hI;unfold dW at HI;go_enter Tryz.func316,Tryz.ntmps316;go_wp2_with fail
 refine Calls.mono HI.out ?_;rintro e w1⟨c,rfl,hQ,hr⟩;have HQ:Hid (Qi c w1):=hQ;clear HI hQ hc2;go_wp2_with (first
  |(refine zak rfl 398 _ _ rfl (w.heap.size+1) #[.int .i64 0,.bool true,.slice none 0 0,.slice none 0 0,.int .i64 c] rfl rfl 398 _ hr (by kernel_rfl) rfl (zfw _ _ _ _ _ _ _ _ _) ?_;intro w2 HR2 hf2;go_frame)
  |fail)
 refine bodyPost_ret (zbk rfl _ _ _ _ _ rfl (zcw HR2.out)) rfl ?_;exact⟨c,w1,rfl,HQ.out,hf2⟩
theorem zwf(hc:w.cell? ⟨q,0,none⟩=some (.pointer s))(Qi:Option Addr->Nat->Nat->World->Prop)(hI:Calls Tryz.prog 319 #[.pointer s,.int .i64 n,.slice bo bl bc] (dW w k f n wk wv wd key en bo bl bc) fun e w'=>∃(ro:Option Addr) (N:Nat) (rc:Nat),e=.returned (.slice ro N rc)/\Qi ro N rc w'/\w'.heap[w.heap.size+1]? = some (.cells #[.int .i64 0,.bool false,.slice none 0 0,.slice none 0 0,.int .i64 0] 398 (0,0))) :
  Calls Tryz.prog 318 #[.agg #[.int .u8 k,.int .i64 f,.int .i64 n,.string wk,.string wv,.bool wd,.string key,.string en,.slice bo bl bc],.pointer (some ⟨q,0,none⟩)] w fun e w2=>∃(ro:Option Addr)(N:Nat)(rc:Nat)(w':World),e=.returned (.agg #[.int .i64 0,.bool true,.slice none 0 0,.slice ro N rc,.int .i64 0])/\Qi ro N rc w'/\Fr [w.heap.size+1] w' w2:=by
 have HI:Hid (Calls ..):=hI;have hc2:=Lib.cell?_alloc_some (.cells #[.int .i64 0,.bool false,.slice none 0 0,.slice none 0 0,.int .i64 0] 398) (Lib.cell?_alloc_some (.cells #[.int .u8 k,.int .i64 f,.int .i64 n,.string wk,.string wv,.bool wd,.string key,.string en,.slice bo bl bc] 278) hc);have HS:Hid (w.heap.size+2<=(dW w k f n wk wv wd key en bo bl bc).heap.size):=by show _<=_;unfold dW;simp
 clear hI;unfold dW at HI;go_enter Tryz.func318,Tryz.ntmps318;go_wp2_with fail
 refine Calls.mono HI.out ?_;rintro e w1⟨ro,N,rc,rfl,hQ,hr⟩;have HQ:Hid (Qi ro N rc w1):=hQ;clear HI hQ hc2;go_wp2_with (first
  |(refine zak rfl 398 _ _ rfl (w.heap.size+1) #[.int .i64 0,.bool true,.slice none 0 0,.slice ro N rc,.int .i64 0] rfl rfl 398 _ hr (by kernel_rfl) rfl (zfw _ _ _ _ _ _ _ _ _) ?_;intro w2 HR2 hf2;go_frame)
  |fail)
 refine bodyPost_ret (zbk rfl _ _ _ _ _ rfl (zcw HR2.out)) rfl ?_;exact⟨ro,N,rc,w1,rfl,HQ.out,hf2⟩
theorem zwg(hc:w.cell? ⟨q,0,none⟩=some (.pointer s))(Qi:ByteArray->Bool->World->Prop)(hI:Calls Tryz.prog 313 #[.pointer s,.string key,.int .i64 n] (dW w k f n wk wv wd key en bo bl bc) fun e w'=>∃(v:ByteArray) (ob:Bool),e=.returned (.tuple #[.string v,.bool ob])/\Qi v ob w'/\w'.heap[w.heap.size+1]? = some (.cells #[.int .i64 0,.bool false,.slice none 0 0,.slice none 0 0,.int .i64 0] 398 (0,0))/\Fr [] (dW w k f n wk wv wd key en bo bl bc) w') :
  Calls Tryz.prog 312 #[.agg #[.int .u8 k,.int .i64 f,.int .i64 n,.string wk,.string wv,.bool wd,.string key,.string en,.slice bo bl bc],.pointer (some ⟨q,0,none⟩)] w fun e w2=>∃(v:ByteArray)(ob:Bool)(w':World),Qi v ob w'/\((ob=false/\e=.returned (.agg #[.int .i64 0,.bool false,.slice none 0 0,.slice none 0 0,.int .i64 0])/\Fr [w.heap.size+1] w' w2)\/(ob=true/\∃E,e=.returned (.agg #[.int .i64 0,.bool true,.slice (some ⟨E,0,none⟩) 1 1,.slice none 0 0,.int .i64 0])/\w'.heap.size<=E/\w2.heap[E]? = some (.cells #[.string key,.string v] 61 (0,0))/\Fr [w.heap.size+1] w' w2)):=by
 have HI:Hid (Calls ..):=hI;have hc2:=Lib.cell?_alloc_some (.cells #[.int .i64 0,.bool false,.slice none 0 0,.slice none 0 0,.int .i64 0] 398) (Lib.cell?_alloc_some (.cells #[.int .u8 k,.int .i64 f,.int .i64 n,.string wk,.string wv,.bool wd,.string key,.string en,.slice bo bl bc] 278) hc);have HS:Hid (w.heap.size+2<=(dW w k f n wk wv wd key en bo bl bc).heap.size):=by show _<=_;unfold dW;simp
 have HK:Hid (∀W,Fr [] (dW w k f n wk wv wd key en bo bl bc) W->W.cell? ⟨w.heap.size,6,none⟩=some (.string key)):=fun W hf=>by
  have h6:=((Fr.alloc [] (w.alloc (.cells #[.int .u8 k,.int .i64 f,.int .i64 n,.string wk,.string wv,.bool wd,.string key,.string en,.slice bo bl bc] 278)) (.cells #[.int .i64 0,.bool false,.slice none 0 0,.slice none 0 0,.int .i64 0] 398)).then hf).keep (heap_alloc_new w (.cells #[.int .u8 k,.int .i64 f,.int .i64 n,.string wk,.string wv,.bool wd,.string key,.string en,.slice bo bl bc] 278)) (by simp);rw[crw h6];rfl
 clear hI;unfold dW at HI HK;go_enter Tryz.func312,Tryz.ntmps312;go_wp2_with fail
 refine Calls.mono HI.out ?_;rintro e w1⟨v,ob,rfl,hQ,hr,hfk⟩;have HQ:Hid (Qi v ob w1):=hQ;clear HI hQ hc2;cases ob with
 |false=>
  go_wp2_with (first
   |(refine zak rfl 398 _ _ rfl (w.heap.size+1) #[.int .i64 0,.bool false,.slice none 0 0,.slice none 0 0,.int .i64 0] rfl rfl 398 _ hr (by kernel_rfl) rfl (zfw _ _ _ _ _ _ _ _ _) ?_;intro w2 HR2 hf2;go_frame)
   |fail)
  refine bodyPost_ret (zbk rfl _ _ _ _ _ rfl (zcw HR2.out)) rfl ?_;exact⟨v,false,w1,HQ.out,Or.inl ⟨rfl,rfl,hf2⟩⟩
 |true=>
  have cK:=HK.out _ hfk;have hr2:=(Fr.alloc [] w1 (.cells #[.string key,.string v] 61)).keep hr (by simp);have hE:=heap_alloc_new w1 (.cells #[.string key,.string v] 61);have HE:=(show Hid _ from hE);have HSz:Hid (w.heap.size+1<w1.heap.size):=lt_of_block hr;clear hE;go_wp2_with (first
   |(refine zak rfl 398 _ _ rfl (w.heap.size+1) #[.int .i64 0,.bool true,.slice (some ⟨w1.heap.size,0,none⟩) 1 1,.slice none 0 0,.int .i64 0] rfl rfl 398 _ hr2 (by kernel_rfl) rfl (zfw _ _ _ _ _ _ _ _ _) ?_;intro w2 HR2 hf2;go_frame)
   |fail)
  refine bodyPost_ret (zbk rfl _ _ _ _ _ rfl (zcw HR2.out)) rfl ?_;exact⟨v,true,w1,HQ.out,Or.inr ⟨rfl,w1.heap.size,rfl,Nat.le_refl _,hf2.keep HE.out (by simp;have:=HSz.out;omega),((Fr.alloc [] _ _).mono (by simp)).then hf2⟩⟩
end
end Go.Proofs.YtakbodlicfmkjaaGreat.O
