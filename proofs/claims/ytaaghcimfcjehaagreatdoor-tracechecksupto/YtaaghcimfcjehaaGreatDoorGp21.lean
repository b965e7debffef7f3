/- Contracts and plain lemmas of this claim. -/
import Derived.Test.YtaaghcimfcjehaaGreatDoorGp20
import Derived.Maps.OwnOps
import Derived.Maps.Views
import Derived.DeepKeys4
import Derived.Laws.Cover1
import Derived.Laws.Strings
import Derived.Maps.OwnSet
set_option linter.unusedSimpArgs false
set_option linter.unusedVariables false
set_option maxHeartbeats 8000000
set_option maxRecDepth 100000
namespace Go.Proofs.YtaaghcimfcjehaaGreatDoor
open Go.ChangeShapes Go.WideShapes Go.ChangeAt Go.RowKit Go.Lib Go.Maps
theorem Tryz.undS7:Tryz.prog.underlying 9=some .string:=by kernel_rfl
def SBox (w:World) (b:Nat) (s:ByteArray):Prop:=w.heap[b]? = some (.cells #[.string s] 9 (0,0))
theorem SBox.c {w:World} {b:Nat} {s:ByteArray} (h:SBox w b s):w.cell? ⟨b,0,none⟩=some (.string s):=by unfold SBox at h;simp[World.cell?,h]
theorem SBox.keep {S:List Nat} {w w':World} {b:Nat} {s:ByteArray} (h:SBox w b s) (hf:Fr S w w') (hn:b∉S):SBox w' b s:=hf.keep h hn
theorem zgh (key en:ByteArray) (w:World):Calls Tryz.prog 138 #[.string key,.string en] w fun e w'=> ∃b c,e= .returned (.func (Fn.func 166) #[] #[.pointer (some ⟨b,0,none⟩),.pointer (some ⟨c,0,none⟩)])/\SBox w' b key/\SBox w' c en/\w.heap.size<=b/\w.heap.size<=c/\Fr [] w w':=by
 go_enter Tryz.func138,Tryz.ntmps138
 go_wp2
 go_ret
 refine⟨_,_,rfl,?_,?_,Nat.le_refl _,Nat.le_succ _,(Fr.alloc [] w _).then (Fr.alloc [] _ _)⟩
 ·exact (Fr.alloc [] _ _).keep (heap_alloc_new w (.cells #[.string key] 9)) (by simp)
 ·have:=heap_alloc_new (w.alloc (.cells #[.string key] 9)) (.cells #[.string en] 9)
  simpa[SBox]using this
def inS (key en s:ByteArray):Bool:= !(Op.bytesLess s.toList key.toList)&&(en.toList==[]||Op.bytesLess s.toList en.toList)
set_option maxHeartbeats 1000000 in
theorem zkd (b c:Nat) (key en s:ByteArray) (B:Bool) (w:World) (hb:SBox w b key) (hc:SBox w c en) (hB:B=inS key en s):Calls Tryz.prog 166 #[.string s,.pointer (some ⟨b,0,none⟩),.pointer (some ⟨c,0,none⟩)] w fun e w'=>e= .returned (.bool B)/\Fr [] w w':=by
 have c0:=hb.c
 have c1:=hc.c
 have hE0:(⟨#[]⟩:ByteArray).toList=[]:=(zjm _).2 rfl
 obtain⟨G,hG⟩: ∃G,Op.bytesLess s.toList key.toList=G:=⟨_,rfl⟩
 obtain⟨E,hE⟩: ∃E,(en.toList==([]:List UInt8))=E:=⟨_,rfl⟩
 obtain⟨K,hK⟩: ∃K,Op.bytesLess s.toList en.toList=K:=⟨_,rfl⟩
 have hB':B=(!G&&(E||K)):=by rw[hB,<-hG,<-hE,<-hK];rfl
 have HB:Hid (B=(!G&&(E||K))):=hB'
 clear hB hB'
 have hundef:undef=Value.tuple #[]:=rfl
 cases G<;>cases E<;>cases K<;>(go_enter Tryz.func166,Tryz.ntmps166;go_wp2;go_ret;exact⟨by rw[HB.out];rfl,Fr.refl _ _⟩)
theorem zxb {ts:List Tm} {i:Nat} (h:i<ts.length):txs (ts.take (i+1))=txs (ts.take i)++[(ts.getD i Tm.zero).tx]:=by rw[zhg ts i h,znl];rfl
theorem Tryz.undTsE:Tryz.prog.underlying 24=some (.slice (Tryz.prog.elem 24)):=by kernel_rfl
theorem Tryz.elemTs:Tryz.prog.elem 24=66:=by kernel_rfl
theorem Tryz.sizeT (w:World):(sizeOf 66).run Tryz.prog w= .ok 2 w:=by kernel_rfl
theorem Tryz.undMap:Tryz.prog.underlying 222=some (.map 9 152):=by kernel_rfl
theorem Tryz.keyedStr:Keyed Tryz.prog 9:=string_keyed Tryz.undS7
def entD (k s:ByteArray):DataW Unit:= .agg [.lit (.string k.data.toList),.lit (.string s.data.toList)]
def zcn (v:Value):Option (DataW Unit×List MemPlace) :=
 match v with
 | .agg cs=>match cs.toList with
  | [.string k,.string s]=>some (entD k s,[])
  | _=>none
 | _=>none
theorem znz (k s:ByteArray):zcn (.agg #[.string k,.string s])=some (entD k s,[]):=rfl
theorem zgi {v:Value} {y:DataW Unit×List MemPlace} (h:zcn v=some y): ∃k s,v= .agg #[.string k,.string s]/\y=(entD k s,[]):=by
 unfold zcn at h
 split at h
 ·rename_i cs
  split at h
  ·rename_i k s hcs
   simp only[Option.some.injEq]at h
   exact⟨k,s,by rw[<-Array.toArray_toList (xs:=cs),hcs],h.symm⟩
  ·cases h
 ·cases h
theorem zct {a b:ByteArray} (h:a.data.toList=b.data.toList):a=b:=by
 cases a;cases b
 simp only at h
 congr
 exact Array.toList_inj.1 h
theorem zue {k s k' s':ByteArray} (h:entD k s=entD k' s'):k=k'/\s=s':=by
 simp only[entD,DataW.agg.injEq,List.cons.injEq,DataW.lit.injEq,Lit.string.injEq,and_true]at h
 exact⟨zct h.1,zct h.2⟩
def kl7 (s:ByteArray):Lit:= .string s.data.toList
theorem zfx {s t:ByteArray} (h:kl7 s=kl7 t):s=t:=zct (by simpa[kl7]using h)
theorem zhk (s:ByteArray) (hs:s.size<=maxLen):keyOf Tryz.prog 9 (.string s)=some (kl7 s):=Go.WideMaps.keyOf_string_mk Tryz.undS7 hs
def MapE (w:World) (b n:Nat) (E:ByteArray->Option ByteArray):Prop :=
 ∃D:DataW Unit,w.ownsMap Tryz.prog 9 zcn b n D/\(∀s,has D (kl7 s)=(E s).isSome)/\ ∀s v,E s=some v-> ∀z,D.atKey (kl7 s) z=entD s v
theorem MapE.lt {w:World} {b n:Nat} {E:ByteArray->Option ByteArray} (h:MapE w b n E):b<w.heap.size:=by
 obtain⟨D,hD,_⟩:=h
 exact hD.lt
theorem MapE.keep {S:List Nat} {w w':World} {b n:Nat} {E:ByteArray->Option ByteArray} (h:MapE w b n E) (hf:Fr S w w') (hn:b∉S):MapE w' b n E:=by
 have hlt:=h.lt
 obtain⟨D,⟨es,clock,hb,hr⟩,h2⟩:=h
 exact⟨D,⟨es,clock,(hf.block b hlt hn).trans hb,hr⟩,h2⟩
theorem MapE.mono {w:World} {b n m:Nat} {E:ByteArray->Option ByteArray} (h:MapE w b n E) (hn:n<=m):MapE w b m E:=by
 obtain⟨D,hD,h2⟩:=h
 exact⟨D,hD.mono hn,h2⟩
theorem MapE.made (w:World):MapE (w.alloc (.map #[] 0)) w.heap.size 0 (fun _=>none) :=
 ⟨.map [],World.ownsMap_made w _ _ _,fun s=>rfl,fun s v h=>by cases h⟩
def zbh (E:ByteArray->Option ByteArray) (x:Wt):ByteArray->Option ByteArray:=fun s=>if s=x.key then (if x.drop=true then none else some x.val) else E s
theorem MapE.store {w:World} {b n:Nat} {E:ByteArray->Option ByteArray} (h:MapE w b n E) (key val:ByteArray) (hs:key.size<=maxLen) (hn:n<maxLen) :
  ∃w',(Instr.mapUpdate 222 (.map (some b)) (.string key) (.agg #[.string key,.string val])).run Tryz.prog w= .ok () w'/\MapE w' b (n+1) (zbh E ⟨key,val,false⟩)/\Fr [b] w w':=by
 obtain⟨D,hD,hH,hA⟩:=h
 have hk:=zhk key hs
 have hI:=hD.isMap
 obtain⟨w',hrun,hO,hg⟩:=hD.update Tryz.keyedStr Tryz.undMap hn hk (znz key val)
 refine⟨w',hrun,⟨_,hO,?_,?_⟩,Fr.grown hg (by intro k hk _;cases hk;simp)⟩
 ·intro s
  unfold zbh
  by_cases he:s=key
  ·subst he
   rw[if_pos rfl,has_put_same hI (Tryz.keyedStr.key hk)]
   rfl
  ·rw[if_neg he,has_put_other (fun e=>he (zfx e)),hH s]
 ·intro s v hv z
  unfold zbh at hv
  by_cases he:s=key
  ·subst he
   rw[if_pos rfl]at hv
   simp only[Bool.false_eq_true,if_false,Option.some.injEq]at hv
   subst hv
   exact atKey_put_same hI (Tryz.keyedStr.key hk) _ _
  ·rw[if_neg he]at hv
   rw[atKey_put_other (fun e=>he (zfx e))]
   exact hA s v hv z
theorem MapE.drop {w:World} {b n:Nat} {E:ByteArray->Option ByteArray} (h:MapE w b n E) (key val:ByteArray) (hs:key.size<=maxLen) (ty:TypeId) :
  ∃w',(Builtin.delete_ #[222,9] ty #[.map (some b),.string key]).run Tryz.prog w= .ok (.tuple #[]) w'/\MapE w' b n (zbh E ⟨key,val,true⟩)/\Fr [b] w w':=by
 obtain⟨D,hD,hH,hA⟩:=h
 have hk:=zhk key hs
 obtain⟨w',hrun,hO,ht⟩:=hD.drop Tryz.keyedStr Tryz.undMap hk ty
 refine⟨w',hrun,⟨_,hO,?_,?_⟩,Fr.grown ht.grown (by intro k hk _;cases hk;simp)⟩
 ·intro s
  unfold zbh
  by_cases he:s=key
  ·subst he
   rw[if_pos rfl,has_del_same]
   rfl
  ·rw[if_neg he,has_del_other (fun e=>he (zfx e)),hH s]
 ·intro s v hv z
  unfold zbh at hv
  by_cases he:s=key
  ·rw[if_pos he]at hv
   cases hv
  ·rw[if_neg he]at hv
   rw[atKey_del_other (fun e=>he (zfx e))]
   exact hA s v hv z
set_option maxHeartbeats 4000000 in
theorem zrk (b n:Nat) (E:ByteArray->Option ByteArray) (key val:ByteArray) (drop:Bool) (w:World) (h:MapE w b n E) (hs:key.size<=64) (hn:n<9007199254740992) :
  Calls Tryz.prog 165 #[.map (some b),.agg #[.string key,.string val,.bool drop]] w fun e w'=>e= .returned (.tuple #[])/\MapE w' b (n+1) (zbh E ⟨key,val,drop⟩)/\Fr [b] w w':=by
 have hsm:key.size<=maxLen:=by unfold maxLen;omega
 obtain⟨w0,HW0⟩: ∃w0,Hid (w.alloc (.cells #[.string key,.string val,.bool drop] 92)=w0):=⟨_,rfl⟩
 have hF0:Fr [] w w0:=by rw[<-HW0.out];exact Fr.alloc [] w _
 have hb0:w0.heap[w.heap.size]? = some (.cells #[.string key,.string val,.bool drop] 92 (0,0)):=by rw[<-HW0.out];exact heap_alloc_new w _
 have c0:w0.cell? ⟨w.heap.size,0,none⟩=some (.string key):=by rw[cell_of_row _ _ _ _ _ _ hb0];rfl
 have c1:w0.cell? ⟨w.heap.size,1,none⟩=some (.string val):=by rw[cell_of_row _ _ _ _ _ _ hb0];rfl
 have c2:w0.cell? ⟨w.heap.size,2,none⟩=some (.bool drop):=by rw[cell_of_row _ _ _ _ _ _ hb0];rfl
 have h0:=h.keep hF0 (by simp)
 cases drop with
 | true =>
  have hdr: ∀ty,∃w',(Builtin.delete_ #[222,9] ty #[.map (some b),.string key]).run Tryz.prog w0= .ok (.tuple #[]) w'/\MapE w' b n (zbh E ⟨key,val,true⟩)/\Fr [b] w0 w':=fun ty=>h0.drop key val hsm ty
  obtain⟨w1,hr1,hM1,hG1⟩:=hdr 0
  have HR:Hid (MapE w1 b (n+1) (zbh E ⟨key,val,true⟩)/\Fr [b] w w1):=⟨hM1.mono (by omega),(hF0.mono (by simp)).then hG1⟩
  clear h h0 hM1 hG1 hb0 hdr
  go_enter Tryz.func165,Tryz.ntmps165
  go_upto_region 1 with fail
  rw[HW0.out]
  go_wp2
  refine bodyPost_ret (results_none rfl _ _ _) rfl ?_
  exact⟨rfl,HR.out⟩
 | false =>
  obtain⟨w1,hr1,hM1,hG1⟩:=h0.store key val hsm (by unfold maxLen;omega)
  have HR:Hid (MapE w1 b (n+1) (zbh E ⟨key,val,false⟩)/\Fr [b] w w1):=⟨hM1,(hF0.mono (by simp)).then hG1⟩
  clear h h0 hM1 hG1 hb0
  go_enter Tryz.func165,Tryz.ntmps165
  go_upto_region 1 with fail
  rw[HW0.out]
  go_wp2
  go_end0
  exact⟨rfl,HR.out⟩
def zcd (Pk:ByteArray->Bool) (E:ByteArray->Option ByteArray) (x:Wt):ByteArray->Option ByteArray:=if Pk x.key=true then zbh E x else E
def zbc (Pk:ByteArray->Bool) (E:ByteArray->Option ByteArray) (ws:List Wt):ByteArray->Option ByteArray:=ws.foldl (zcd Pk) E
def call (Pk:ByteArray->Bool) (E:ByteArray->Option ByteArray) (l:List Tx):ByteArray->Option ByteArray:=l.foldl (fun E t=>zbc Pk E t.ws) E
theorem zfn (Pk:ByteArray->Bool) (E:ByteArray->Option ByteArray) (ws:List Wt) (x:Wt):zbc Pk E (ws++[x])=zcd Pk (zbc Pk E ws) x:=by simp[zbc]
theorem zrl (Pk:ByteArray->Bool) (E:ByteArray->Option ByteArray) (l:List Tx) (t:Tx):call Pk E (l++[t])=zbc Pk (call Pk E l) t.ws:=by simp[call]
def CoTold (l:List Tx) (f:Int) (c:Nat):Prop:=(Bad 1 l c/\c≠0)\/(okL 1 l/\ ¬(0<=f/\f<=(l.length:Int))/\c=1)\/(okL 1 l/\(0<=f/\f<=(l.length:Int))/\c=0)
theorem CoTold.ex (l:List Tx) (f:Int): ∃c,CoTold l f c:=by
 obtain⟨c,hc⟩:=Bad.ex l 1
 by_cases h0:c=0
 ·have hok:=hc.ok.1 h0
  by_cases hb:0<=f/\f<=(l.length:Int)
  ·exact⟨0,Or.inr (Or.inr ⟨hok,hb,rfl⟩)⟩
  ·exact⟨1,Or.inr (Or.inl ⟨hok,hb,rfl⟩)⟩
 ·exact⟨c,Or.inl ⟨hc,h0⟩⟩
theorem zuf (ab:Option Addr) (L cap J0:Nat) (h2:J0<=cap) (h3: ¬cap=0) (w:World):(Instr.slice 24 (.slice ab L cap) none (some (.int .i64 (J0:Int))) none).run Tryz.prog w= .ok (.slice ab J0 cap) w:=by
 rw[run_slice_h w 24 _ _ _ Tryz.undTsE .i64 (J0:Int) (by omega) (by omega),Tryz.elemTs,Tryz.sizeT]
 cases ab<;>simp[Result.andThen,sliced,h3,Addr.add]
theorem zoa (ab:Option Addr) (L cap J0:Nat) (h2:J0<=cap) (h3: ¬cap=0) (w:World):(Instr.sliceAt 24 (.slice ab L cap) none (some (.int .i64 (J0:Int))) none).run Tryz.prog w= .ok (.slice ab J0 cap) w:=by
 rw[run_sliceAt_slice w 24 _ _ _ _ Tryz.undTsE]
 exact zuf ab L cap J0 h2 h3 w
theorem zug (ab:Option Addr) (w:World):(Instr.slice 24 (.slice ab 0 0) none (some (.int .i64 0)) none).run Tryz.prog w= .ok (.slice ab 0 0) w:=by
 rw[run_slice_h w 24 _ _ _ Tryz.undTsE .i64 0 (by omega) (by omega),Tryz.elemTs,Tryz.sizeT]
 simp[Result.andThen,sliced]
theorem zob (ab:Option Addr) (w:World):(Instr.sliceAt 24 (.slice ab 0 0) none (some (.int .i64 0)) none).run Tryz.prog w= .ok (.slice ab 0 0) w:=by
 rw[run_sliceAt_slice w 24 _ _ _ _ Tryz.undTsE]
 exact zug ab w
theorem zlw (ab:Option Addr) (L cap J0:Nat) (h1:L<=cap) (h2:J0<=L) (w:World):(Instr.sliceAt 24 (.slice ab L cap) none (some (.int .i64 (J0:Int))) none).run Tryz.prog w= .ok (.slice ab J0 cap) w:=by
 by_cases h:cap=0
 ·subst h
  obtain rfl:L=0:=by omega
  obtain rfl:J0=0:=by omega
  exact zob ab w
 ·exact zoa ab L cap J0 (by omega) h w
theorem zuh (ao:Option Addr) (L cap:Nat) (f:Int) (c:Nat) (ts:List Tm) (kb ke:Nat) (key0 en0:ByteArray) (w:World) (hT:TRs w ao ts) (hLe:L=ts.length) (hf0: -9223372036854775808<=f) (hf1:f<=9223372036854775807) (h:CoTold (txs ts) f c) (hc:c≠0) :
  Calls Tryz.prog 137 #[.slice ao L cap,.int .i64 f,.func (Fn.func 166) #[] #[.pointer (some ⟨kb,0,none⟩),.pointer (some ⟨ke,0,none⟩)]] w fun e w'=>e= .returned (.tuple #[.map none,.int .i64 (c:Int)])/\Fr [] w w':=by
 have HL:Hid (L=ts.length):=hLe
 rcases h with ⟨hb,h0⟩|⟨hok,hb,rfl⟩|⟨_,_,h0⟩
 ·have HB:Hid (Bad 1 (txs ts) c):=hb
  have hcb:((c:Int)!=0)=true:=by rw[bne_iff_ne];omega
  clear hb h0 hLe hc
  go_enter Tryz.func137,Tryz.ntmps137
  go_wp2_with fail
  refine (zcz ao L cap c ts _ hT HL.out HB.out).mono ?_
  rintro e w1 ⟨rfl,hF1⟩
  go_wp2
  go_ret2
  exact⟨rfl,hF1⟩
 ·have HK:Hid (okL 1 (txs ts)):=hok
  have hL2:L<=65536:=by have:=zfu hok;rw[zap]at this;omega
  rw[zap,<-hLe]at hb
  clear hok hLe
  by_cases h1:f<0
  ·have h1':decide (f<0)=true:=by simpa using h1
   go_enter Tryz.func137,Tryz.ntmps137
   go_wp2_with fail
   refine (zcz ao L cap 0 ts _ hT HL.out (zhu HK.out)).mono ?_
   rintro e w1 ⟨rfl,hF1⟩
   go_wp2
   go_ret2
   exact⟨rfl,hF1⟩
  ·have h3:(L:Int)<f:=by
    by_cases h3:(L:Int)<f
    ·exact h3
    ·exact absurd ⟨by omega,by omega⟩ hb
   go_enter Tryz.func137,Tryz.ntmps137
   go_wp2_with fail
   refine (zcz ao L cap 0 ts _ hT HL.out (zhu HK.out)).mono ?_
   rintro e w1 ⟨rfl,hF1⟩
   go_wp2
   go_ret2
   exact⟨rfl,hF1⟩
 ·exact absurd h0 hc
theorem zui (ao:Option Addr) (L cap f:Nat) (ts:List Tm) (kb ke:Nat) (key0 en0:ByteArray) (w:World) (hT:TRs w ao ts) (hLe:L=ts.length) (hcap:L<=cap) (hk:SBox w kb key0) (he:SBox w ke en0) (hok:okL 1 (txs ts)) (hf:f<=L) :
  Calls Tryz.prog 137 #[.slice ao L cap,.int .i64 (f:Int),.func (Fn.func 166) #[] #[.pointer (some ⟨kb,0,none⟩),.pointer (some ⟨ke,0,none⟩)]] w fun e w'=> ∃b,e= .returned (.tuple #[.map (some b),.int .i64 0])/\w.heap.size<=b/\MapE w' b 9000000 (call (inS key0 en0) (fun _=>none) ((txs ts).take f))/\Fr [] w w':=by
 have HL:Hid (L=ts.length):=hLe
 have HK:Hid (okL 1 (txs ts)):=hok
 have hL2:L<=65536:=by have:=zfu hok;rw[zap]at this;omega
 have HNn:Hid (∀t∈ts,t.L<=32/\ ∀x∈t.ws,x.key.size<=64):=fun t ht=>by
  have ho:okT t.n t.ws:=zww hok t.tx (List.mem_map.2 ⟨t,ht,rfl⟩)
  have ha:=hT.each t ht
  exact⟨by rw[ha.len];exact ho.2.2.1,fun x hx=>(ho.2.2.2 x hx).2.1⟩
 have hmm:= @run_makeMap Tryz.prog
 have HI:Hid (∀W,Fr [] w W->TRs W ao ts):=fun W hf=>hT.keep hf
 have HKb:Hid (∀W,Fr [] w W->SBox W kb key0):=fun W hf=>hk.keep hf (by simp)
 have HKe:Hid (∀W,Fr [] w W->SBox W ke en0):=fun W hf=>he.keep hf (by simp)
 clear hk he
 have hfL:(f:Int)<=(L:Int):=by omega
 have hfn: ¬((f:Int)<0):=by omega
 have hsl:=zlw ao L cap f hcap hf
 clear hLe hok hT
 go_enter Tryz.func137,Tryz.ntmps137
 go_wp2_with fail
 refine (zcz ao L cap 0 ts _ (HI.out _ (Fr.refl _ _)) HL.out (zhu HK.out)).mono ?_
 rintro e w0 ⟨rfl,hFc⟩
 have hM0:=MapE.made w0
 have hF0:Fr [] w (w0.alloc (.map #[] 0)):=hFc.then (Fr.alloc [] w0 _)
 have hs0:=hFc.size
 clear hFc
 go_wp2_with fail
 obtain⟨b,hb⟩: ∃b,b=w0.heap.size:=⟨_,rfl⟩
 rw[<-hb]at hM0 ⊢
 have hbw:w.heap.size<=b:=by omega
 have hd1:decide ((f:Int)<0)=false:=by simp
 have hd2:decide (L<f)=false:=by simp;omega
 clear hb
 simp only[hd1,hd2,Bool.or_self]
 go_loopw [32] (fun ii wr=> ∃(i:Nat) (E:ByteArray->Option ByteArray),ii= .int .i64 i/\i<=f/\Hid (MapE wr b (32*i) E)/\Hid (E=call (inS key0 en0) (fun _=>none) (txs (ts.take i)))/\Fr [] w wr) (fun ii _=>f-(RowKit.intOf ii).toNat)
 case atStart=>exact⟨0,_,rfl,Nat.zero_le _,hM0,by simp[Hid,call,txs],hF0⟩
 case round =>
  obtain⟨i,E,rfl,hiL,HM,HFe,hFr⟩:=hrel
  by_cases hi:i<f
  ·have hi':i<ts.length:=by rw[<-HL.out];omega
   have hTr:=HI.out _ hFr
   obtain⟨bb,off,rfl,_,hc⟩:=hTr.lies (by omega)
   have hx:=hc i hi'
   have HAt:Hid (∀W,Fr [] w W->(ts.getD i Tm.zero).at W):=fun W hf=>(HI.out W hf).each _ (zbf ts i hi')
   have hnx:=HNn.out _ (zbf ts i hi')
   have HTx:Hid (txs (ts.take (i+1))=txs (ts.take i)++[(ts.getD i Tm.zero).tx]):=zxb hi'
   obtain⟨x,hxx⟩: ∃x,x=ts.getD i Tm.zero:=⟨_,rfl⟩
   rw[<-hxx]at hx HAt hnx HTx
   clear hxx hc hTr
   obtain⟨n,xo,M,cm,ws⟩:=x
   obtain⟨c0,c1⟩:=hx
   simp only at c0 c1 hnx
   obtain⟨hM32,hks⟩:=hnx
   have HKs:Hid (∀x∈ws,x.key.size<=64):=hks
   have HMl:Hid (M=ws.length):=(HAt.out wr hFr).len
   obtain⟨w1,HW1⟩: ∃w1,Hid (wr.alloc (.cells #[.int .i64 n,.slice xo M cm] 66)=w1):=⟨_,rfl⟩
   obtain⟨B7,HB7⟩: ∃B7,Hid (B7=wr.heap.size):=⟨_,rfl⟩
   have hF1:Fr [] wr w1:=by rw[<-HW1.out];exact Fr.alloc [] wr _
   have hbx:w1.heap[B7]? = some (.cells #[.int .i64 n,.slice xo M cm] 66 (0,0)):=by rw[<-HW1.out,HB7.out];exact heap_alloc_new wr _
   have hG1:=hFr.then hF1
   have hbB:b≠B7:=by have:=HM.out.lt;rw[HB7.out];omega
   have HM1:Hid (MapE w1 b (32*i) E):=HM.out.keep hF1 (by simp)
   have k1:w1.cell? ⟨B7,1,none⟩=some (.slice xo M cm):=by rw[cell_of_row _ _ _ _ _ _ hbx];rfl
   clear hF1 hbx HM hks
   go_upto_region 10 with fail
   rw[HW1.out,<-HB7.out]
   clear c0 c1 HW1 HB7 hFr
   go_wp2_with fail
   go_loopw [39] (fun jj wr=> ∃(j:Nat) (E2:ByteArray->Option ByteArray),jj= .int .i64 j/\j<=M/\Hid (MapE wr b (32*i+j) E2)/\Hid (E2=zbc (inS key0 en0) E (ws.take j))/\Fr [b] w1 wr) (fun jj _=>M-(RowKit.intOf jj).toNat)
   case atStart=>exact⟨0,E,rfl,Nat.zero_le _,HM1,by simp[Hid,zbc],Fr.refl _ _⟩
   case round =>
    obtain⟨j,E2,rfl,hjM,HM2,HFe2,hFr2⟩:=hrel
    have hGr:Fr [] w wr:=hG1.on hFr2 (by intro x hx;simp at hx;omega)
    by_cases hj:j<M
    ·have hj':j<ws.length:=by rw[<-HMl.out];exact hj
     have hat:TArg wr n xo M cm ws:=HAt.out _ hGr
     obtain⟨b2,o2,rfl,_,hc2⟩:=hat.rs.lies (by omega)
     obtain⟨d0,d1,d2⟩:=hc2 j hj'
     have hkz:=HKs.out _ (zbw ws j hj')
     have HTk:Hid (ws.take (j+1)=ws.take j++[ws.getD j Wt.zero]):=zhb ws j hj'
     obtain⟨y,hyy⟩: ∃y,y=ws.getD j Wt.zero:=⟨_,rfl⟩
     rw[<-hyy]at d0 d1 d2 HTk hkz
     clear hyy hc2 hat
     obtain⟨key,val,drop⟩:=y
     simp only at d0 d1 d2 hkz
     obtain⟨w3,HW3⟩: ∃w3,Hid (wr.alloc (.cells #[.string key,.string val,.bool drop] 92)=w3):=⟨_,rfl⟩
     obtain⟨B9,HB9⟩: ∃B9,Hid (B9=wr.heap.size):=⟨_,rfl⟩
     have hF3:Fr [] wr w3:=by rw[<-HW3.out];exact Fr.alloc [] wr _
     have hby:w3.heap[B9]? = some (.cells #[.string key,.string val,.bool drop] 92 (0,0)):=by rw[<-HW3.out,HB9.out];exact heap_alloc_new wr _
     have hG3:Fr [b] w1 w3:=hFr2.then (hF3.mono (by simp))
     have hGr3:Fr [] w w3:=hGr.then hF3
     have HM3:Hid (MapE w3 b (32*i+j) E2):=HM2.out.keep hF3 (by simp)
     have e0:w3.cell? ⟨B9,0,none⟩=some (.string key):=by rw[cell_of_row _ _ _ _ _ _ hby];rfl
     obtain⟨R,HR⟩: ∃R:Bool,Hid (R=(inS key0 en0) key):=⟨_,rfl⟩
     have HAsk:Hid _:=zkd kb ke key0 en0 key R w3 (HKb.out _ hGr3) (HKe.out _ hGr3) HR.out
     clear HM2 hF3
     go_upto_region 13 with fail
     rw[HW3.out,<-HB9.out]
     clear d0 d1 d2 HW3 HB9 hGr
     go_wp2_with fail
     refine Calls.mono HAsk.out ?_
     rintro e w4 ⟨rfl,hF4⟩
     have hby4:=hF4.keep hby (by simp)
     have f0:w4.cell? ⟨B9,0,none⟩=some (.string key):=by rw[cell_of_row _ _ _ _ _ _ hby4];rfl
     have f1:w4.cell? ⟨B9,1,none⟩=some (.string val):=by rw[cell_of_row _ _ _ _ _ _ hby4];rfl
     have f2:w4.cell? ⟨B9,2,none⟩=some (.bool drop):=by rw[cell_of_row _ _ _ _ _ _ hby4];rfl
     have hG4:Fr [b] w1 w4:=hG3.then (hF4.mono (by simp))
     have HM4:Hid (MapE w4 b (32*i+j) E2):=HM3.out.keep hF4 (by simp)
     clear HAsk hby hby4 e0 HM3 hG3 hF4 hGr3
     cases R with
     | true =>
      have HNt:Hid _:=zrk b (32*i+j) E2 key val drop w4 HM4.out hkz (by omega)
      have HS:Hid (zbh E2 ⟨key,val,drop⟩=zbc (inS key0 en0) E (ws.take (j+1))):=by
       show _=_
       rw[HTk.out,zfn,<-HFe2.out]
       unfold zcd
       rw[if_pos HR.out.symm]
      clear HM4
      go_wp2_with fail
      refine Calls.mono HNt.out ?_
      rintro e w5 ⟨rfl,hM5,hF5⟩
      have HM5:Hid (MapE w5 b (32*i+(j+1)) (zbh E2 ⟨key,val,drop⟩)):=hM5.mono (by omega)
      have hG5:=hG4.then hF5
      clear hM5 hF5 HNt hG4 f0 f1 f2
      go_wp2
      go_roundw
      case rel=>exact⟨j+1,_,by simp,by omega,HM5,HS,hG5⟩
      case measure=>simp[RowKit.intOf];omega
     | false =>
      have HS:Hid (E2=zbc (inS key0 en0) E (ws.take (j+1))):=by
       show _=_
       rw[HTk.out,zfn,<-HFe2.out]
       unfold zcd
       rw[if_neg (fun h=>Bool.noConfusion (HR.out.trans h))]
      have HM5:Hid (MapE w4 b (32*i+(j+1)) E2):=HM4.out.mono (by omega)
      clear HM4 f0 f1 f2
      go_wp2
      go_roundw
      case rel=>exact⟨j+1,E2,by simp,by omega,HM5,HS,hG4⟩
      case measure=>simp[RowKit.intOf];omega
    ·have HM5:Hid (MapE wr b (32*(i+1)) E2):=HM2.out.mono (by omega)
     have HS:Hid (E2=call (inS key0 en0) (fun _=>none) (txs (ts.take (i+1)))):=by
      show _=_
      rw[HTx.out,zrl,<-HFe.out,HFe2.out,List.take_of_length_le (by rw[<-HMl.out];omega)]
      rfl
     clear HM2
     go_wp2
     go_roundw
     case rel=>exact⟨i+1,E2,by simp,by omega,HM5,HS,hGr⟩
     case measure=>simp[RowKit.intOf];omega
  ·obtain rfl:i=f:=by omega
   have HS:Hid (E=call (inS key0 en0) (fun _=>none) ((txs ts).take i)):=by
    show _=_
    rw[HFe.out,ztl]
   have HM5:Hid (MapE wr b 9000000 E):=HM.out.mono (by omega)
   clear HM
   go_wp2
   go_ret2
   exact⟨b,rfl,hbw,by rw[<-HS.out];exact HM5.out,hFr⟩
section
variable {g n c:Nat} {OB:List Nat} {lo:Option Addr} {rs:List Ro} {L:Lg} {en:Int->Prop}
def zwj (nn:Int) (wo2:Option Addr) (M wc2:Nat) (ws:List Wt) (so:Option Addr) (N sc:Nat) (ys:List Int):Ro:=⟨nn,wo2,M,wc2,ws,so,N,sc,ys,false⟩
def zdm (nn:Int) (wo2:Option Addr) (M wc2:Nat) (so:Option Addr) (N sc:Nat):List Value:=[.int .i64 nn,.slice wo2 M wc2,.slice so N sc,.bool false]
theorem zxl {w wr V1 W:World} {nn:Int} {wo2 so:Option Addr} {M wc2 N sc g2 cap2:Nat} {ws:List Wt} {ys:List Int} (hR:Rt wr g OB lo n c rs) (hlow: ∀j∈rall g lo OB,j<w.heap.size) (hF:Fr [] w wr) (hG:Fr [] wr V1) (hN:V1.ownsRow wr.heap.size 92 3 (.slice wo2 M wc2) M (wtsC ws)) (hM:M=ws.length) (hok:okT nn ws) (he: ∀x∈ws,x.key.size<=140737488355328/\x.val.size<=140737488355328)
  (hY:IRd wr so ys/\N=ys.length/\(0<N-> ∀a,so=some a->w.heap.size<=a.block/\a.block<wr.heap.size)) (hN6:N<=65536) (hroom:n+1<=65536)
  (hO:W.ownsRow 0 249 4 (.slice (some ⟨g2,0,none⟩) (n+1) cap2) (n+1) (rosC rs++zdm nn wo2 M wc2 so N sc)) (hW:Bq.Went (V1.alloc (.cells #[.int .i64 nn,.slice wo2 M wc2,.slice so N sc,.bool false] 249)) (.slice lo n c) g2 W) :
  W.cell? ⟨g,0,none⟩=some (.slice lo n c)/\W.frozen? ⟨g,0,none⟩=false/\ ∃OB',Rt (W.setCell ⟨g,0,none⟩ (.slice (some ⟨g2,0,none⟩) (n+1) cap2)) g OB' (some ⟨g2,0,none⟩) (n+1) cap2 (rs++[zwj nn wo2 M wc2 ws so N sc ys])/\(∀j∈rall g (some ⟨g2,0,none⟩) OB',j∈rall g lo OB\/w.heap.size<=j)/\Fr (rall g lo OB) w (W.setCell ⟨g,0,none⟩ (.slice (some ⟨g2,0,none⟩) (n+1) cap2)):=by
 have hV2:Fr [] wr (V1.alloc (.cells #[.int .i64 nn,.slice wo2 M wc2,.slice so N sc,.bool false] 249)):=hG.then (Fr.alloc _ _ _)
 have hWf:=hW.fr
 have hWw:Fr (Value.slice lo n c).ownBlock.toList wr W:=hV2.trans hWf (by simp) (fun x hx _=>hx)
 have hgl:g<w.heap.size:=hlow g (by simp[rall])
 have hlol: ∀k,(Value.slice lo n c).ownBlock=some k->k<w.heap.size/\k≠g:=fun k hk=>by
  refine⟨hlow k (by rw[zeh lo n c 0 0]at hk;simp[rall,hk]),fun e=> ?_⟩
  obtain⟨cs,hc⟩:=Bq.own_type hR.row k hk
  rw[e,hR.box]at hc
  simp at hc
 have hgn:g∉(Value.slice lo n c).ownBlock.toList:=fun hm=>(hlol g (Option.mem_toList.1 hm)).2 rfl
 have hbox:=hWw.keep hR.box hgn
 have hsw:=hF.size
 have hsW:=hWw.size
 have hs1:=hG.size
 have hs2:V1.heap.size<W.heap.size:=by have:=hWf.size;simp at this;omega
 have hg2:(Value.slice lo n c).ownBlock=some g2\/V1.heap.size<g2:=by
  rcases hW with ⟨e,_⟩|⟨e,_⟩
  ·exact Or.inl e
  ·simp at e;exact Or.inr (by omega)
 have hg2g:g2≠g:=fun e=>by
  obtain⟨cs,hc⟩:=Bq.own_type hO g2 rfl
  rw[e,hbox]at hc
  simp at hc
 obtain⟨hws,hwb⟩:=zxk hN hM (by have:=hok.2.2.1;omega) he
 have hwn: ∀k,(Value.slice wo2 M wc2).ownBlock=some k->wr.heap.size<=k/\k<V1.heap.size:=fun k hk=>hN.lt k hk
 have hFs:Fr (g::(Value.slice lo n c).ownBlock.toList) wr (W.setCell ⟨g,0,none⟩ (.slice (some ⟨g2,0,none⟩) (n+1) cap2)):=(hWw.mono (fun x hx _=>List.mem_cons_of_mem _ hx)).then (Fr.set _ _ _ (by simp))
 have hFs1:Fr (g::(Value.slice lo n c).ownBlock.toList) V1 (W.setCell ⟨g,0,none⟩ (.slice (some ⟨g2,0,none⟩) (n+1) cap2)):=(((Fr.alloc [] V1 _).trans hWf (by simp) (fun x hx _=>hx)).mono (fun x hx _=>List.mem_cons_of_mem _ hx)).then (Fr.set _ _ _ (by simp))
 have hSw: ∀x∈g::(Value.slice lo n c).ownBlock.toList,x<w.heap.size:=fun x hx=>by
  rcases List.mem_cons.1 hx with rfl|hx
  ·exact hgl
  ·exact (hlol x (Option.mem_toList.1 hx)).1
 obtain⟨SB,hSB1,hSB2⟩: ∃SB:List Nat,(0<N-> ∀a,so=some a->a.block∈SB)/\ ∀k∈SB,w.heap.size<=k/\k<wr.heap.size:=by
  by_cases h0:0<N
  ·cases so with
   | none=>exact⟨[],fun _ a ha=>(by cases ha),by simp⟩
   | some a=>exact⟨[a.block],fun _ a' ha=>by cases ha;simp,fun k hk=>by simp at hk;subst hk;exact hY.2.2 h0 a rfl⟩
  ·exact⟨[],fun h=>absurd h h0,by simp⟩
 refine⟨by rw[cell_of_row _ _ _ _ _ _ hbox];rfl,zjj hbox _,(Value.slice wo2 M wc2).ownBlock.toList++(SB++OB),⟨?_,fun hm=> ?_,?_,?_,fun k hk hm=> ?_,fun r hr=> ?_,fun k hk=> ?_,hroom⟩,fun j hj=> ?_,?_⟩
 ·exact zfc _ hbox
 ·rcases List.mem_append.1 hm with e|e
  ·have:=(hwn g (Option.mem_toList.1 e)).1;omega
  ·rcases List.mem_append.1 e with e|e
   ·have:=(hSB2 g e).1;omega
   ·exact hR.gno e
 ·rw[zur]
  exact ownsRow_setCell_other hO (by simp[Value.ownBlock];exact hg2g) _
 ·rw[List.length_append,<-hR.len];rfl
 ·simp[Value.ownBlock]at hk
  subst hk
  rcases hg2 with e2|e2
  ·have h3:=(hlol g2 e2).1
   rcases List.mem_append.1 hm with e|e
   ·have:=(hwn g2 (Option.mem_toList.1 e)).1;omega
   ·rcases List.mem_append.1 e with e|e
    ·have:=(hSB2 g2 e).1;omega
    ·exact hR.rno g2 e2 e
  ·rcases List.mem_append.1 hm with e|e
   ·have:=(hwn g2 (Option.mem_toList.1 e)).2;omega
   ·rcases List.mem_append.1 e with e|e
    ·have:=(hSB2 g2 e).2;omega
    ·have:=hR.mine g2 e;omega
 ·rcases List.mem_append.1 hr with e|e
  ·refine ((hR.each r e).keep hFs (fun j hj hm=> ?_)).more (fun j hj=>by simp[hj])
   rcases List.mem_cons.1 hm with rfl|hm
   ·exact hR.gno hj
   ·exact hR.rno j (Option.mem_toList.1 hm) hj
  ·rw[List.mem_singleton]at e
   subst e
   refine⟨hM,hws.keepS hFs1 (fun h0 a ha hm=> ?_),fun h0 a ha=> ?_,hok,hY.2.1,hY.1.keepS hFs (fun h0 a ha hm=> ?_),fun h0 a ha=> ?_,hN6⟩
   ·have:=(hwn _ (hwb h0 a ha)).1;have:=hSw _ hm;omega
   ·exact List.mem_append.2 (Or.inl (Option.mem_toList.2 (hwb h0 a ha)))
   ·have h0':0<ys.length:=h0
    have:=(hY.2.2 (by rw[hY.2.1];exact h0') a ha).1;have:=hSw _ hm;omega
   ·have h0':0<ys.length:=h0
    exact List.mem_append.2 (Or.inr (List.mem_append.2 (Or.inl (hSB1 (by rw[hY.2.1];exact h0') a ha))))
 ·rw[show (W.setCell ⟨g,0,none⟩ (.slice (some ⟨g2,0,none⟩) (n+1) cap2)).heap.size=W.heap.size from by simp[World.setCell]]
  rcases List.mem_append.1 hk with e|e
  ·have:=(hwn k (Option.mem_toList.1 e)).2;omega
  ·rcases List.mem_append.1 e with e|e
   ·have:=(hSB2 k e).2;omega
   ·have:=hR.mine k e;omega
 ·simp only[rall,List.mem_cons,List.mem_append,Option.mem_toList]at hj ⊢
  rcases hj with rfl|hj|hj|hj|hj
  ·exact Or.inl (Or.inl rfl)
  ·simp[Value.ownBlock]at hj
   subst hj
   rcases hg2 with e2|e2
   ·exact Or.inl (Or.inr (Or.inl (by rw[zeh lo 0 0 n c];exact e2)))
   ·exact Or.inr (by omega)
  ·have:=(hwn j hj).1;exact Or.inr (by omega)
  ·exact Or.inr (hSB2 j hj).1
  ·exact Or.inl (Or.inr (Or.inr hj))
 ·refine hF.trans hFs (by simp) (fun x hx _=> ?_)
  simp only[rall,List.mem_cons,List.mem_append,Option.mem_toList]at hx ⊢
  rcases hx with rfl|hx
  ·exact Or.inl rfl
  ·exact Or.inr (Or.inl (by rw[zeh lo 0 0 n c];exact hx))
set_option maxHeartbeats 16000000 in
theorem zuv (nn:Int) (wo:Option Addr) (M mc:Nat) (ws:List Wt) (w:World) (h:Rt w g OB lo n c rs) (hl:Rel rs L en) (hW:WRs w wo ws) (hM:M=ws.length) (hok:okT nn ws) (hnew: ∀p∈L,p.1<nn) :
  Calls Tryz.prog 130 #[.pointer (some ⟨g,0,none⟩),.agg #[.int .i64 nn,.slice wo M mc]] w fun e w'=> ∃xs lo' c' OB' r,e= .returned (.tuple #[.int .i64 ((xs.length:Nat):Int),.int .i64 0])/\AdT L en (zah ws) xs/\Rt w' g OB' lo' (n+1) c' (rs++[r])/\r.num=nn/\r.ws=ws/\r.xs=xs/\r.en=false/\(∀j∈rall g lo' OB',j∈rall g lo OB\/w.heap.size<=j)/\Fr (rall g lo OB) w w':=by
 obtain⟨w0,HW0⟩: ∃w0,Hid (w.alloc (.cells #[.int .i64 nn,.slice wo M mc] 66)=w0):=⟨_,rfl⟩
 have hF0:Fr [] w w0:=by rw[<-HW0.out];exact Fr.alloc [] w _
 have hb0:w0.heap[w.heap.size]? = some (.cells #[.int .i64 nn,.slice wo M mc] 66 (0,0)):=by rw[<-HW0.out];exact heap_alloc_new w _
 have HC:Hid (Calls _ _ _ _ _):=zcy nn wo M mc 0 ws w0 (hW.keep hF0) hM (by have:=hok.1;omega) (by have:=hok.2.1;omega) (Or.inl ⟨hok,rfl⟩)
 have hM32:M<=32:=by rw[hM];exact hok.2.2.1
 have hroom:=h.room hl hok.1 hok.2.1 hnew
 have HSm:Hid (∀x,Op11 L en x->1<=x/\x<=65536):=h.small hl
 have HR:Hid (∀W,Fr [] w W->Rt W g OB lo n c rs):=fun W hf=>h.quiet hf
 have HRl:Hid (Rel rs L en):=hl
 have HWr:Hid (∀W,Fr [] w W->WRs W wo ws):=fun W hf=>hW.keep hf
 have HM:Hid (M=ws.length):=hM
 have HOk:Hid (okT nn ws):=hok
 have HLn:Hid (n=rs.length):=h.len
 have HX:Hid (∀W,Fr [] w0 W->W.cell? ⟨w.heap.size,0,none⟩=some (.int .i64 nn)/\W.cell? ⟨w.heap.size,1,none⟩=some (.slice wo M mc)):=fun W hf=>by
  have hb:=hf.keep hb0 (by simp)
  exact⟨by rw[cell_of_row _ _ _ _ _ _ hb];rfl,by rw[cell_of_row _ _ _ _ _ _ hb];rfl⟩
 have HLast:Hid (∀k,n=k+1->(rs.getD k Ro.zero).num<nn):=fun k hk=>hnew _ (hl.mem (zbi (by rw[<-h.len,hk];omega)))
 have HF0:Hid (Fr [] w w0):=hF0
 clear h hl hW hM hok hnew hb0 hF0
 go_enter Tryz.func130,Tryz.ntmps130
 go_upto_region 1 with fail
 rw[HW0.out]
 clear HW0
 obtain⟨x0,x1⟩:=HX.out w0 (Fr.refl _ _)
 go_wp2_with fail
 refine Calls.mono HC.out ?_
 rintro e w1 ⟨rfl,hF1⟩
 have HF1:Hid (Fr [] w0 w1):=hF1
 clear hF1 HC x0 x1
 go_upto_region 5 with fail
 go_cut [38] from 15 (fun v wx=>v= .bool false/\Hid (Fr [] w0 wx))
 case first =>
  have hR:=HR.out _ (HF0.out.then HF1.out)
  have c0:=hR.c0
  obtain⟨x0,x1⟩:=HX.out _ HF1.out
  cases n with
  | zero =>
   clear hR
   go_quiet (fail)
   go_wp2
   go_meet
   case rel=>exact⟨rfl,HF1.out.then (Fr.drewN _ _ _)⟩
  | succ k =>
   obtain⟨b,rfl,_,_⟩:=hR.lies (by omega)
   have d0:=(hR.cells rfl k (by omega)).1
   have hlt:=HLast.out k rfl
   obtain⟨y,hy⟩: ∃y,y=(rs.getD k Ro.zero).num:=⟨_,rfl⟩
   rw[<-hy]at d0 hlt
   have q1:decide (nn<=y)=false:=by simp;omega
   have q2:decide ((0:Int)<((k+1:Nat):Int))=true:=by simp
   have hiw:IntKind.i64.wrap ((k:Int))=(k:Int):=by rw[IntKind.wrap_i64];omega
   clear hR hy
   go_quiet (fail)
   go_wp2
   go_meet
   case rel=>exact⟨rfl,HF1.out.then (Fr.drewN _ _ _)⟩
 case rest =>
 obtain⟨rfl,HF2⟩:=hcut
 clear HF1
 go_wp2_with fail
 go_loopw [6,7] (fun ll ii wr=> ∃(i N:Nat) (so:Option Addr) (sc:Nat) (ys:List Int),ll= .slice so N sc/\ii= .int .i64 i/\i<=M/\N<=65536/\Hid (IRd wr so ys/\N=ys.length/\(0<N-> ∀a,so=some a->w0.heap.size<=a.block/\a.block<wr.heap.size))/\Hid (AdT L en (zah (ws.take i)) ys)/\Hid (Fr [] w0 wr)) (fun _ ii _=>M-(RowKit.intOf ii).toNat)
 case atStart=>exact⟨0,0,none,0,[],rfl,rfl,Nat.zero_le _,Nat.zero_le _,⟨⟨fun h=>by simp at h⟩,rfl,fun h=>by omega⟩,⟨List.Pairwise.nil,fun m=>by simp[zah]⟩,HF2⟩
 case round =>
  obtain⟨i,N,so,sc,ys,rfl,rfl,hi1,hN,HY,HA,HF⟩:=hrel
  obtain⟨x0,x1⟩:=HX.out _ HF.out
  by_cases hi:i<M
  ·have hil:i<ws.length:=by rw[<-HM.out];exact hi
   have hw:=HWr.out _ (HF0.out.then HF.out)
   obtain⟨wb,wof,rfl,_,hwc⟩:=hw.lies (by omega)
   have hk0:=(hwc i hil).1
   have hks:=(hw.each _ (by simp[List.getD,hil]:ws.getD i Wt.zero∈ws)).1
   have HT:=zon ws i hil
   obtain⟨kk,hkk⟩: ∃kk,kk=(ws.getD i Wt.zero).key:=⟨_,rfl⟩
   rw[<-hkk]at hk0 hks HT
   have HT:Hid (zah (ws.take (i+1))=zah (ws.take i)++[kk]):=HT
   have HU:Hid (Calls _ _ _ _ _):=zrx kk wr (HR.out _ (HF0.out.then HF.out)) hks
   clear hkk hwc hw
   go_wp2_with fail
   refine Calls.mono HU.out ?_
   rintro e w3 ⟨⟨k,rfl,hkn,hk1,hk2⟩|⟨rfl,hno⟩,hF3⟩
   ·have hR:=HR.out _ ((HF0.out.then HF.out).then hF3)
    have c0:=hR.c0
    obtain⟨b,rfl,_,_⟩:=hR.lies (by omega)
    obtain⟨d0,_,_,d3⟩:=hR.cells rfl k hkn
    have hkl:k<rs.length:=by rw[<-HLn.out];exact hkn
    have hls:=HRl.out.last kk hkl hk1 (fun j h1 h2=>hk2 j h1 (by rw[HLn.out];exact h2))
    have hopk:Op11 L en (lst L kk)↔(rs.getD k Ro.zero).en=false:=by
     rw[hls]
     constructor
     ·rintro⟨_,h2⟩
      cases he:(rs.getD k Ro.zero).en with
      | false=>rfl
      | true=>exact absurd ((HRl.out.enb _ (zbi hkl)).1 he) h2
     ·intro he
      exact⟨⟨_,HRl.out.mem (zbi hkl),rfl⟩,fun h2=>by rw[(HRl.out.enb _ (zbi hkl)).2 h2]at he;cases he⟩
    obtain⟨x,hx⟩: ∃x,x=(rs.getD k Ro.zero).num:=⟨_,rfl⟩
    obtain⟨ee,hee⟩: ∃ee,ee=(rs.getD k Ro.zero).en:=⟨_,rfl⟩
    rw[<-hx]at d0 hls
    rw[<-hee]at d3 hopk
    have HF3:Hid (Fr [] w0 w3):=HF.out.then hF3
    have HY3:Hid (IRd w3 so ys/\N=ys.length/\(0<N-> ∀a,so=some a->w0.heap.size<=a.block/\a.block<w3.heap.size)):=⟨HY.out.1.keep hF3,HY.out.2.1,fun h0 a ha=>⟨(HY.out.2.2 h0 a ha).1,Nat.lt_of_lt_of_le (HY.out.2.2 h0 a ha).2 hF3.size⟩⟩
    have hkz:(0:Int)<=(k:Int):=by omega
    clear hx hee hR hk1 hk2 hF3 HF HY HU x0 x1 hk0
    cases ee with
    | true =>
     have HA2:Hid (AdT L en (zah (ws.take (i+1))) ys):=by
      rw[Hid,HT.out]
      exact HA.out.same (fun ho=>by have:=hopk.1 ho;cases this)
     clear hopk hls HA
     go_wp2
     go_roundw
     case rel=>exact⟨i+1,N,so,sc,ys,rfl,by simp,by omega,hN,HY3,HA2,HF3⟩
     case measure=>simp[RowKit.intOf];omega
    | false =>
     have HWi:Hid (Calls _ _ _ _ _):=zuq so N sc ys x w3 HY3.out.1 HY3.out.2.1 (by omega) HA.out.1
     have HOp:Hid (Op11 L en (lst L kk)/\lst L kk=x):=⟨hopk.2 rfl,hls⟩
     clear hopk hls
     go_wp2_with fail
     refine Calls.mono HWi.out ?_
     rintro e w4 ⟨so2,M2,sc2,zs,rfl,hM2,hI2,hR2,hZ2,hor,hF4⟩
     have HA2:Hid (AdT L en (zah (ws.take (i+1))) zs):=by
      rw[Hid,HT.out]
      exact HA.out.more HOp.out.1 hR2 (fun q=>by rw[hZ2 q,HOp.out.2])
     have hM2b:M2<=65536:=by rw[hM2];exact HA2.out.few HSm.out
     have HF4:Hid (Fr [] w0 w4):=HF3.out.then hF4
     have HY4:Hid (IRd w4 so2 zs/\M2=zs.length/\(0<M2-> ∀a,so2=some a->w0.heap.size<=a.block/\a.block<w4.heap.size)):=⟨hI2,hM2,fun h0 a ha=>by
      rcases hor with ⟨rfl,rfl⟩|hO
      ·have:=HY3.out.2.2 (by have:=HY3.out.2.1;omega) a ha
       exact⟨this.1,Nat.lt_of_lt_of_le this.2 hF4.size⟩
      ·subst ha
       obtain⟨h1,cc,h2⟩:=hO.blk (k:=a.block) (by simp[Value.ownBlock])
       exact⟨Nat.le_trans HF3.out.size h1,lt_of_block h2⟩⟩
     clear hM2 hI2 hR2 hZ2 hor hF4 HWi HOp HY3 HF3 HA
     go_wp2
     go_roundw
     case rel=>exact⟨i+1,M2,so2,sc2,zs,rfl,by simp,by omega,hM2b,HY4,HA2,HF4⟩
     case measure=>simp[RowKit.intOf];omega
   ·have hl0:=HRl.out.last0 kk (fun j hj=>hno j (by rw[HLn.out];exact hj))
    have HA2:Hid (AdT L en (zah (ws.take (i+1))) ys):=by
     rw[Hid,HT.out]
     exact HA.out.same (fun ho=>by rw[hl0]at ho;have:=HSm.out 0 ho;omega)
    have HF3:Hid (Fr [] w0 w3):=HF.out.then hF3
    have HY3:Hid (IRd w3 so ys/\N=ys.length/\(0<N-> ∀a,so=some a->w0.heap.size<=a.block/\a.block<w3.heap.size)):=⟨HY.out.1.keep hF3,HY.out.2.1,fun h0 a ha=>⟨(HY.out.2.2 h0 a ha).1,Nat.lt_of_lt_of_le (HY.out.2.2 h0 a ha).2 hF3.size⟩⟩
    clear hno hl0 hF3 HF HY HU x0 x1 hk0 HA
    go_wp2
    go_roundw
    case rel=>exact⟨i+1,N,so,sc,ys,rfl,by simp,by omega,hN,HY3,HA2,HF3⟩
    case measure=>simp[RowKit.intOf];omega
  ·have HA2:Hid (AdT L en (zah ws) ys):=by
    have:=HA.out
    rwa [List.take_of_length_le (by rw[<-HM.out];omega)]at this
   obtain⟨i0,hi0,hz0,hz1,hz2⟩:=info_parts Tryz.infoRO
   have hRr:=HR.out _ (HF0.out.then HF.out)
   have c0:=hRr.c0
   have HV:Hid (∀W,Fr [] wr W->W.cell? ⟨g,0,none⟩=some (.slice lo n c)/\W.cell? ⟨w.heap.size,0,none⟩=some (.int .i64 nn)/\W.cell? ⟨w.heap.size,1,none⟩=some (.slice wo M mc)/\W.ownsRow 0 249 4 (.slice lo n c) n (rosC rs)):=fun W hf=>by
    obtain⟨k0,k1⟩:=HX.out _ (HF.out.then hf)
    have h2:=hRr.quiet hf
    exact⟨h2.c0,k0,k1,h2.row⟩
   have HWd:Hid (WRs wr.drew wo ws):=(HWr.out _ (HF0.out.then HF.out)).keep (Fr.drew _ _)
   have HFin:Hid (∀(V1 W:World) (wo2:Option Addr) (wc2 g2 cap2:Nat),Fr [] wr V1->V1.ownsRow wr.heap.size 92 3 (.slice wo2 M wc2) M (wtsC ws)->W.ownsRow 0 249 4 (.slice (some ⟨g2,0,none⟩) (n+1) cap2) (n+1) (rosC rs++zdm nn wo2 M wc2 so N sc)->Bq.Went (V1.alloc (.cells #[.int .i64 nn,.slice wo2 M wc2,.slice so N sc,.bool false] 249)) (.slice lo n c) g2 W->_):=fun V1 W wo2 wc2 g2 cap2 h1 h2 h3 h4 =>
    zxl (w:=w) hRr (HR.out _ (Fr.refl _ _)).mineA (HF0.out.then HF.out) h1 h2 HM.out HOk.out (HWr.out _ (Fr.refl _ _)).each ⟨HY.out.1,HY.out.2.1,fun h0 a ha=>⟨Nat.le_trans HF0.out.size (HY.out.2.2 h0 a ha).1,(HY.out.2.2 h0 a ha).2⟩⟩ hN hroom h3 h4
   have HNs:Hid (N=ys.length):=HY.out.2.1
   have HNw:Hid (∀(V1:World) (wo2:Option Addr) (wc2:Nat) (j:Nat) u,(zdm nn wo2 M wc2 so N sc)[j]? = some u->(V1.alloc (.cells #[.int .i64 nn,.slice wo2 M wc2,.slice so N sc,.bool false] 249)).cell? ((⟨V1.heap.size,0,none⟩:Addr).add j)=some u):=fun V1 wo2 wc2 j u hj=>by
    rw[Addr.add_lit,Nat.zero_add,cell_of_row _ _ _ _ _ _ (heap_alloc_new V1 _)]
    simpa[zdm]using hj
   have HOne:Hid (∀(wo2:Option Addr) (wc2:Nat),∀u∈zdm nn wo2 M wc2 so N sc,u.oneCell'=true):=fun wo2 wc2 u hu=>by
    simp[zdm]at hu
    rcases hu with rfl|rfl|rfl|rfl<;>rfl
   clear hRr HY HA HF
   go_upto_region 15 with fail
   go_region_law (first
    | (refine Bq.step_app _ rfl (.tmp 81) (.tmp 90) 125 rfl 249 i0 _ 4 64 Tryz.undROs hi0 hz0 hz1 hz2 rfl (by omega) (.slice lo n c) n (rosC rs) (by simp[Act.eval]) HP8.out ⟨V1.heap.size,0,none⟩ 1 (zdm nn wo2 M wc2 so N sc) (by simp[Act.eval]) rfl (HNw.out V1 wo2 wc2) (HOne.out wo2 wc2) (by omega) (by simp only[maxLen];omega) ?_;intro g2 cap2 W hO2 hW2;obtain⟨q1,q2,q3⟩:=HFin.out V1 W wo2 wc2 g2 cap2 ((Fr.drew _ _).then HP4.out.2) HP4.out.1 hO2 hW2;have HQ3:Hid _:=q3;clear q3 hO2 hW2)
    | (refine zsb _ rfl (.tmp 84) (.tmp 86) rfl (by simp[Act.eval]) wo M mc ws (by simp[Act.eval]) HWd.out HM.out (by omega) ?_;intro wo2 wc2 V1 hN1 hG1;obtain⟨p1,p2,p3,p4⟩:=HV.out V1 ((Fr.drew _ _).then hG1);obtain⟨p5,p6,p7,p8⟩:=HV.out (V1.alloc (.cells #[.int .i64 nn,.slice wo2 M wc2,.slice so N sc,.bool false] 249)) (((Fr.drew _ _).then hG1).then (Fr.alloc _ _ _));have HP8:Hid _:=p8;have HP4:Hid (_/\_):=And.intro hN1 hG1;clear p8 p4 hN1 hG1))
   all_goals
    go_wp2
    refine bodyPost_ret (results_tmp2 rfl _ _ _) rfl ?_
    obtain⟨OB',k1,k2,k3⟩:=HQ3.out
    exact⟨ys,_,cap2,OB',zwj nn wo2 M wc2 ws so N sc ys,by rw[<-HNs.out];rfl,HA2.out,k1,rfl,rfl,rfl,rfl,k2,k3⟩
end
end Go.Proofs.YtaaghcimfcjehaaGreatDoor
