/- Contracts and lemmas. -/
import Derived.Test.YtojjdnjfaelnfaaGreatDoorGp26
import Derived.Test.YtojjdnjfaelnfaaGreatDoorGp24
set_option maxHeartbeats 2000000
set_option maxRecDepth 100000
set_option linter.unusedSimpArgs false
set_option linter.unusedVariables false
namespace Go.Proofs.YtojjdnjfaelnfaaGreatDoor.O
open Go.ChangeShapes Go.WideShapes Go.ChangeAt Go.RowKit Go.Lib Go.Proofs.Tryz
theorem zyf(Q:Nat):(#[.nilFunc,.func (Fn.func 329) #[] #[.pointer (some ⟨Q,0,none⟩)],.func (Fn.func 331) #[] #[.pointer (some ⟨Q,0,none⟩)],.func (Fn.func 333) #[] #[.pointer (some ⟨Q,0,none⟩)],.func (Fn.func 335) #[] #[.pointer (some ⟨Q,0,none⟩)],.func (Fn.func 337) #[] #[.pointer (some ⟨Q,0,none⟩)]]:Array Value).all (·.oneCell')=true:=by simp[Value.oneCell',Value.nilFunc]
theorem zhv(s:Option Addr)(w:World):Calls prog 327 #[.pointer s] w fun e w'=>∃Q,e=.returned (.agg #[.nilFunc,.func (Fn.func 329) #[] #[.pointer (some ⟨Q,0,none⟩)],.func (Fn.func 331) #[] #[.pointer (some ⟨Q,0,none⟩)],.func (Fn.func 333) #[] #[.pointer (some ⟨Q,0,none⟩)],.func (Fn.func 335) #[] #[.pointer (some ⟨Q,0,none⟩)],.func (Fn.func 337) #[] #[.pointer (some ⟨Q,0,none⟩)]])/\w.heap.size<=Q/\w'.heap[Q]? = some (.cells #[.pointer s] 327 (0,0))/\Fr [] w w':=by
 have hQ:=(Fr.alloc [] (w.alloc (.cells #[.pointer s] 327)) (.cells #[.nilFunc,.nilFunc,.nilFunc,.nilFunc,.nilFunc,.nilFunc] 436)).keep (heap_alloc_new w (.cells #[.pointer s] 327)) (by simp);have hr:((w.alloc (.cells #[.pointer s] 327)).alloc (.cells #[.nilFunc,.nilFunc,.nilFunc,.nilFunc,.nilFunc,.nilFunc] 436)).heap[w.heap.size+1]? = some (.cells #[.nilFunc,.nilFunc,.nilFunc,.nilFunc,.nilFunc,.nilFunc] 436 (0,0)):=by
  rw[show w.heap.size+1=(w.alloc (.cells #[.pointer s] 327)).heap.size by simp];exact heap_alloc_new _ _
 have HF:Hid (Fr [] w ((w.alloc (.cells #[.pointer s] 327)).alloc (.cells #[.nilFunc,.nilFunc,.nilFunc,.nilFunc,.nilFunc,.nilFunc] 436))):=(Fr.alloc _ _ _).then (Fr.alloc _ _ _);have HQ:=(show Hid _ from hQ);clear hQ;go_enter func327,ntmps327;go_wp2_with (first
  |(refine zbi rfl 436 _ _ rfl (w.heap.size+1) #[.nilFunc,.func (Fn.func 329) #[] #[.pointer (some ⟨w.heap.size,0,none⟩)],.func (Fn.func 331) #[] #[.pointer (some ⟨w.heap.size,0,none⟩)],.func (Fn.func 333) #[] #[.pointer (some ⟨w.heap.size,0,none⟩)],.func (Fn.func 335) #[] #[.pointer (some ⟨w.heap.size,0,none⟩)],.func (Fn.func 337) #[] #[.pointer (some ⟨w.heap.size,0,none⟩)]] rfl rfl 436 _ hr (by kernel_rfl) rfl (zyf _) ?_;intro w2 HR2 hf2;go_frame)
  |fail)
 refine bodyPost_ret (zig rfl _ _ _ _ _ rfl (run_loadVar_row (P:=prog) _ _ _ 436 _ _ (.array 6 435) HR2.out (by kernel_rfl) rfl (by kernel_rfl))) rfl ?_;refine⟨w.heap.size,rfl,Nat.le_refl _,hf2.keep HQ.out (by simp),HF.out.on hf2 (by intro y hy;simp at hy;omega)⟩
theorem zyg(t:Int)(ok:Bool)(eo:Option Addr)(el ec:Nat)(ho:Option Addr)(hl hc:Nat)(c:Int):(#[.int .i64 t,.bool ok,.slice eo el ec,.slice ho hl hc,.int .i64 c]:Array Value).all (·.oneCell')=true:=by simp[Value.oneCell']
theorem znr{w:World}{g:Nat}{t:Int}{ok:Bool}{eo:Option Addr}{el ec:Nat}{ho:Option Addr}{hl hc:Nat}{c:Int}(h:w.heap[g]? = some (.cells #[.int .i64 t,.bool ok,.slice eo el ec,.slice ho hl hc,.int .i64 c] 429 (0,0))):(loadVar 429 ⟨g,0,none⟩).run prog w=.ok (.agg #[.int .i64 t,.bool ok,.slice eo el ec,.slice ho hl hc,.int .i64 c]) w:=
 run_loadVar_row (P:=prog) _ g _ 429 _ _ (.struct (prog.fieldsOf 429)) h (by kernel_rfl) rfl (by kernel_rfl)
section
variable{k f n:Int}{wk wv:ByteArray}{wd:Bool}{key en:ByteArray}{bo:Option Addr}{bl bc:Nat}{s:Option Addr}{q:Nat}{w:World}
def dW(w:World)(k f n:Int)(wk wv:ByteArray)(wd:Bool)(key en:ByteArray)(bo:Option Addr)(bl bc:Nat):World:=(w.alloc (.cells #[.int .u8 k,.int .i64 f,.int .i64 n,.string wk,.string wv,.bool wd,.string key,.string en,.slice bo bl bc] 338)).alloc (.cells #[.int .i64 0,.bool false,.slice none 0 0,.slice none 0 0,.int .i64 0] 429)
theorem zlm:Fr [] w (dW w k f n wk wv wd key en bo bl bc):=(Fr.alloc _ _ _).then (Fr.alloc _ _ _)
theorem zaik:(dW w k f n wk wv wd key en bo bl bc).heap[w.heap.size+1]? = some (.cells #[.int .i64 0,.bool false,.slice none 0 0,.slice none 0 0,.int .i64 0] 429 (0,0)):=by
 unfold dW;rw[show w.heap.size+1=(w.alloc (.cells #[.int .u8 k,.int .i64 f,.int .i64 n,.string wk,.string wv,.bool wd,.string key,.string en,.slice bo bl bc] 338)).heap.size by simp];exact heap_alloc_new _ _
theorem zyh(hc:w.cell? ⟨q,0,none⟩=some (.pointer s))(Qi:Bool->Int->World->Prop)(hI:Calls prog 330 #[.pointer s,.int .i64 n,.agg #[.string wk,.string wv,.bool wd]] (dW w k f n wk wv wd key en bo bl bc) fun e w'=>∃(ok:Bool) (c:Int),e=.returned (.tuple #[.bool ok,.int .i64 c])/\Qi ok c w'/\w'.heap[w.heap.size+1]? = some (.cells #[.int .i64 0,.bool false,.slice none 0 0,.slice none 0 0,.int .i64 0] 429 (0,0))) :
  Calls prog 329 #[.agg #[.int .u8 k,.int .i64 f,.int .i64 n,.string wk,.string wv,.bool wd,.string key,.string en,.slice bo bl bc],.pointer (some ⟨q,0,none⟩)] w fun e w2=>∃(ok:Bool)(c:Int)(w':World),e=.returned (.agg #[.int .i64 0,.bool ok,.slice none 0 0,.slice none 0 0,.int .i64 0])/\Qi ok c w'/\Fr [w.heap.size+1] w' w2:=by
 have HI:Hid (Calls ..):=hI;have hc2:=Lib.cell?_alloc_some (.cells #[.int .i64 0,.bool false,.slice none 0 0,.slice none 0 0,.int .i64 0] 429) (Lib.cell?_alloc_some (.cells #[.int .u8 k,.int .i64 f,.int .i64 n,.string wk,.string wv,.bool wd,.string key,.string en,.slice bo bl bc] 338) hc);have HS:Hid (w.heap.size+2<=(dW w k f n wk wv wd key en bo bl bc).heap.size):=by show _<=_;unfold dW;simp
 clear hI;unfold dW at HI;go_enter func329,ntmps329;go_wp2_with fail
 refine Calls.mono HI.out ?_;rintro e w1⟨ok,c,rfl,hQ,hr⟩;have HQ:Hid (Qi ok c w1):=hQ;clear HI hQ hc2;go_wp2_with (first
  |(refine zbi rfl 429 _ _ rfl (w.heap.size+1) #[.int .i64 0,.bool ok,.slice none 0 0,.slice none 0 0,.int .i64 0] rfl rfl 429 _ hr (by kernel_rfl) rfl (zyg _ _ _ _ _ _ _ _ _) ?_;intro w2 HR2 hf2;go_frame)
  |fail)
 refine bodyPost_ret (zig rfl _ _ _ _ _ rfl (znr HR2.out)) rfl ?_;exact⟨ok,c,w1,rfl,HQ.out,hf2⟩
end
end Go.Proofs.YtojjdnjfaelnfaaGreatDoor.O
