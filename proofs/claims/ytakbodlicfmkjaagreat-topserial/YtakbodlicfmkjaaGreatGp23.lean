/- Contracts and lemmas. -/
import Derived.Test.YtakbodlicfmkjaaGreatGp18
import Derived.Sort.OwnSorted
import Derived.Shelf.Sort.Plain
import Derived.Shelf.Slices.In.SortNone
import Derived.Shelf.Lay
import Derived.Laws.Cover1
set_option maxHeartbeats 8000000
set_option maxRecDepth 100000
set_option linter.unusedSimpArgs false
set_option linter.unusedVariables false
namespace Go.Proofs.YtakbodlicfmkjaaGreat.O
open Go.ChangeShapes Go.WideShapes Go.ChangeAt Go.RowKit Go.Lib Go.Maps Go.Sort Go.Shelf
shelf_lay Lays.n190 Nm 190 at Tryz as Tryz.sortStrs
def strC(ss:List ByteArray):List Value:=ss.map Value.string
structure KOut(w w':World)(so:Option Addr)(N c:Nat)(ss:List ByteArray):Prop where
 len:N=ss.length
 row:w'.ownsRow w.heap.size 9 1 (.slice so N c) N (strC ss)
theorem KOut.keep{w w' w'':World}{so:Option Addr}{N c:Nat}{ss:List ByteArray}(h:KOut w w' so N c ss)(hf:Fr [] w' w''):KOut w w'' so N c ss:=⟨h.len,owns_keepB h.row hf (by simp)⟩
theorem KOut.at{w w':World}{so:Option Addr}{N c:Nat}{ss:List ByteArray}(h:KOut w w' so N c ss)(i:Nat)(hi:i<ss.length):∃g,so=some ⟨g,0,none⟩/\w'.cell? ⟨g,i,none⟩=some (.string (ss.getD i ⟨#[]⟩)):=by
 rcases h.row.2 with⟨_,h0⟩|⟨g,cap,cur,hv,_,hg,_,_,_,ht⟩
 .have:=h.len;omega
 cases hv;refine⟨g,rfl,?_⟩;have hN:=h.len;rw[crw hg,<-Array.getElem?_toList];have h1:(cur.toList.take (N*1))[i]? = (strC ss)[i]? :=by rw[ht]
 rw[List.getElem?_take_of_lt (by omega)]at h1
 rw[h1];simp[strC,List.getD,hi]
theorem Tryz.undStrs:Tryz.prog.underlying 288=some (.slice 9):=by kernel_rfl
theorem Tryz.infoSt:(Tryz.prog.info? 9).map (fun i=>(i.zero,i.size,i.bytes))=some (some (.string ⟨#[]⟩),1,16):=by kernel_rfl
theorem zpa:∃i,Tryz.prog.info? 9=some i/\i.zero=some (.string ⟨#[]⟩)/\i.size=1/\i.bytes=16:=by
 have h:=Tryz.infoSt;cases hi:Tryz.prog.info? 9 with
 |none=>rw[hi]at h;cases h
 |some i=>
  rw[hi]at h
  simp only[Option.map_some,Option.some.injEq,Prod.mk.injEq]at h;exact⟨i,rfl,h.1,h.2.1,h.2.2⟩
theorem zkh(w0 w:World){ops:Array Oper}{rest:List Oper}{o:Oper}{a:Act}{Q:Exit->Act->World->Prop}(hgd:o.guard=none)(s x:Operand)(ho:o.op=.call {callee:=.builtin .append,args:=#[s,x],argTypes:=#[288,288]})(so:Option Addr)(N c:Nat)(ss:List ByteArray)(hs:a.eval s=.slice so N c)(hK:KOut w0 w so N c ss)(hN:N<3518437208883)(h0:w0.heap.size<=w.heap.size)(key:ByteArray)(hx:a.eval x=.slice (some ⟨w.heap.size,0,none⟩) 1 1)(h:∀so' c' w',KOut w0 w' so' (N+1) c' (ss++[key])->Fr (Value.slice so N c).ownBlock.toList w w'->wpList Tryz.prog ops Q rest (a.put o.dst (.slice so' (N+1) c')) w'):wpList Tryz.prog ops Q (o::rest) a (w.alloc (.cells #[.string key] 9)):=by
 obtain⟨i0,hi,hz0,hz1,hz2⟩:=zpa;have hmx:3518437208884<=maxLen:=by unfold maxLen;omega
 refine wpList_append_own (w.alloc (.cells #[.string key] 9)) hgd s x 288 ho w0.heap.size 9 i0 _ 1 16 Tryz.undStrs hi hz0 hz1 hz2 rfl (by decide) (.slice so N c) N (strC ss) hs (owns_keepB hK.row (Fr.alloc [] w _) (by simp)) ⟨w.heap.size,0,none⟩ 1 1 [.string key] hx rfl ?_ (by intro u hu;simp at hu;subst hu;rfl) (by omega) (by omega) (by simp;omega) ?_
 .intro j u hu;have hr:=heap_alloc_new w (.cells #[.string key] 9)
  match j,hu with
  |0,hu=>show World.cell? _ ⟨w.heap.size,0,none⟩=_;rw[crw hr];exact hu
  |(j+1),hu=>simp at hu
 intro v' w' hown' hg' _;obtain⟨bo,cap',rfl⟩:∃bo cap',v'=.slice bo (N+1) cap':=by
  rcases hown'.2 with⟨_,h1⟩|⟨g,cap,_,rfl,_⟩
  .omega
  exact⟨_,cap,rfl⟩
 have hst:strC (ss++[key])=strC ss++[.string key]:=by simp[strC]
 rw[<-hst]at hown'
 refine h bo cap' w' ⟨by rw[hK.len];simp,hown'⟩ ?_;exact ((Fr.alloc [] w _).mono (by simp)).then (Fr.grown (S:=(Value.slice so N c).ownBlock.toList) hg' (fun y hy _=>Option.mem_toList.2 hy))
def Kinc(ss:List ByteArray):Prop:=ss.Pairwise fun a b=>Op.bytesLess a.toList b.toList=true
theorem zzh(ss:List ByteArray):strC ss=(ss.map (·.data.toList)).map encStr:=by
 simp[strC,encStr]
theorem zvu(w0:World)(so:Option Addr)(N c:Nat)(ss:List ByteArray)(w:World)(h:KOut w0 w so N c ss)(hnd:ss.Nodup)(hf:N<3518437208883) :
  Calls Tryz.prog 184 #[.slice so N c] w fun e w'=>e=.returned (.tuple #[])/\∃ts,ts.Perm ss/\Kinc ts/\KOut w0 w' so N c ts/\Fr (Value.slice so N c).ownBlock.toList w w':=by
 obtain⟨hlen,hrow⟩:=h;rcases hrow.2 with⟨hv,h0⟩|⟨g,cap,cur,hv,hbase,hb,h1,h2,h3,h4⟩
 .cases hv;obtain rfl:ss=[]:=List.eq_nil_of_length_eq_zero (by omega);have hcon:=Any.slices_Sort_string_none Tryz.sortStrs none 0 w
  change Calls Tryz.prog 184 _ _ _ at hcon
  refine hcon.mono ?_;rintro e w'⟨rfl,rfl⟩;exact⟨rfl,[],List.Perm.refl _,List.Pairwise.nil,⟨hlen,hrow⟩,Fr.refl _ _⟩
 cases hv;have ht:cur.toList.take (ss.map (·.data.toList)).length=(ss.map (·.data.toList)).map encStr:=by
  rw[List.length_map,<-hlen,<-zzh];simpa using h4
 have hcon:=Any.slices_Sort_string Tryz.sortStrs g 0 c (ss.map (·.data.toList)) w (holds_of_block hb ht) (lt_of_block hb) (by rw[List.length_map];omega)
 change Calls Tryz.prog 184 _ _ _ at hcon
 rw[List.length_map,<-hlen]at hcon
 refine hcon.mono ?_;rintro e w'⟨rfl,n,os,rfl⟩;obtain⟨ms,hms⟩:∃ms,ms=(ss.map (·.data.toList)).mergeSort fun x y=>decide (x<=y):=⟨_,rfl⟩;have tr:∀a b c:List UInt8,(fun x y:List UInt8=>decide (x<=y)) a b=true->(fun x y:List UInt8=>decide (x<=y)) b c=true->(fun x y:List UInt8=>decide (x<=y)) a c=true:=fun a b c h1 h2=>by simp only[decide_eq_true_eq]at *;exact List.le_trans h1 h2
 have to:∀a b:List UInt8,((fun x y:List UInt8=>decide (x<=y)) a b||(fun x y:List UInt8=>decide (x<=y)) b a)=true:=fun a b=>by simp only[Bool.or_eq_true,decide_eq_true_eq];exact List.le_total a b
 have hp:ms.Perm (ss.map (·.data.toList)):=by rw[hms];exact List.mergeSort_perm _ _
 have hpw:ms.Pairwise (fun x y=>decide (x<=y)=true):=by rw[hms];exact List.pairwise_mergeSort tr to _
 rw[<-hms];have hts:(ms.map fun x=>(⟨x.toArray⟩:ByteArray)).Perm ss:=by
  have:=hp.map fun x=>(⟨x.toArray⟩:ByteArray);rw[List.map_map]at this
  have e:(ss.map ((fun x:List UInt8=>(⟨x.toArray⟩:ByteArray)) ∘ fun s=>s.data.toList))=ss:=by
   rw[List.map_congr_left (g:=id) (fun s _=>by cases s;simp),List.map_id]
  rw[e]at this
  exact this
 have hl2:ms.length=ss.length:=by rw[hp.length_eq,List.length_map]
 refine⟨rfl,ms.map fun x=>⟨x.toArray⟩,hts,?_,⟨by rw[List.length_map,hl2];exact hlen,?_⟩,?_⟩
 .have hn:=hts.nodup_iff.2 hnd;unfold Kinc;have h5:(ms.map fun x=>(⟨x.toArray⟩:ByteArray)).Pairwise fun a b=>decide (a.data.toList<=b.data.toList)=true:=by
   rw[List.pairwise_map];exact hpw.imp fun h=>by simpa using h
  refine (h5.and hn).imp ?_;rintro a b⟨h6,h7⟩;rw[ByteArray.toList_eq,ByteArray.toList_eq];simp only[decide_eq_true_eq]at h6;have h9:Op.bytesLess b.data.toList a.data.toList=false:=by
   rw[bytesLess_eq];simp only[decide_eq_false_iff_not,List.not_lt];exact h6
  cases h8:Op.bytesLess a.data.toList b.data.toList with
  |true=>rfl
  |false=>exact absurd (zbs (znq h8 h9)) h7
 .have hso:=ownsRow_sorted (n:=n) (os:=os) (base:=w0.heap.size) (cap:=c) (e:=9) (ss:=ss.map (·.data.toList)) (ts:=ms) (by rw[hl2,List.length_map]) hbase hb (by rw[List.length_map];omega) h2 (by simpa using h3);rw[List.length_map,<-hlen]at hso
  have e:strC (ms.map fun x=>(⟨x.toArray⟩:ByteArray))=ms.map encStr:=by
   simp[strC,encStr]
  rw[e];exact hso
 exact Fr.grown (grownBy_sorted _) (fun k hk _=>by simpa[Value.ownBlock]using hk.symm)
structure KsT(M:ByteArray->List Vn)(key en:ByteArray)(ss:List ByteArray):Prop where
 inc:Kinc ss
 mem:∀s,s∈ss↔(M s≠[]/\inS key en s=true)
theorem zdw(x:List UInt8):∃s:ByteArray,encStr x=.string s/\s.data.toList=x/\kl7 s=.string x:=⟨⟨x.toArray⟩,rfl,by simp,by simp[kl7]⟩
theorem zfs{w0:World}{sb b n:Nat}{M:ByteArray->List Vn}(key en:ByteArray)(w:World)(h:Sh w0 w sb b n M)(hn:n<3518437208883) :
  Calls Tryz.prog 153 #[.pointer (some ⟨sb,0,none⟩),.string key,.string en] w fun e w'=>∃so N c ss,e=.returned (.slice so N c)/\KOut w w' so N c ss/\N<=n/\KsT M key en ss/\Fr [] w w':=by
 have cs:=h.cell;have HS:Hid (Sh w0 w sb b n M):=h;obtain⟨G,⟨D0,hown,hH,hA⟩,hG0,hGr,_⟩:=h.map;have HH:Hid (∀s,has D0 (kl7 s)=true↔M s≠[]):=by
  intro s;rw[hH s];constructor
  .intro h1;obtain⟨⟨g,L,c⟩,hg⟩:=Option.isSome_iff_exists.1 h1;obtain⟨hV,hL,_⟩:=hGr s g L c hg;intro e;have:=hV.len;rw[e]at this
   simp at this;omega
  intro h1;cases hg:G s with
  |some x=>rfl
  |none=>exact absurd (hG0 s hg) h1
 have HB:Hid (b<w.heap.size/\sb<w.heap.size):=⟨hown.lt,lt_of_block h.box⟩;have HSz:Hid (Maps.size D0<=n):=hown.size_le;clear h hH hA hG0 hGr;have hE0:(⟨#[]⟩:ByteArray).toList=[]:=(zbm _).2 rfl;go_enter Tryz.func153,Tryz.ntmps153;go_wp2_with (first
  |(at_range;refine wpList_range_own _ rfl _ 238 rfl 9 124 Tryz.keyedStr Tryz.undVMap _ b n _ rfl hown ?_;intro w1 hrg0 hg0 hs0)
  |fail)
 go_frame;have HK0:Hid (KOut w w1 none 0 0 (([]:List ByteArray).filter (inS key en))):=⟨rfl,⟨rfl,.inl ⟨rfl,rfl⟩⟩⟩;have HF0:Hid (Fr [] w w1):=Fr.grown hg0 (by simp);have hcnt:=HSz.out;go_loopw [7] (fun ll wr=>∃(left:Lit->Bool)(cnt:Nat)(so:Option Addr)(N c:Nat)(ms:List ByteArray),ll=.slice so N c/\wr.ranges Tryz.prog 9 zbx b w.heap.size n D0 left cnt/\ms.length+cnt<=n/\N<=ms.length/\Hid (Collected D0 left (ms.map (·.data.toList)))/\Hid (KOut w wr so N c (ms.filter (inS key en)))/\Hid (Fr [] w wr))
  (fun _ wr=>wr.rangeLeft b w.heap.size)
 case atStart=>exact⟨_,_,none,0,0,[],rfl,hrg0,by simpa using hcnt,Nat.zero_le _,Collected.start D0,HK0,HF0⟩
 obtain⟨left,cnt,so,N,c,ms,rfl,hrg,hmc,hNm,HC,HK,HF⟩:=hrel;go_wp2_with (first
  |(at_next;refine wpList_next_ranges _ rfl _ rfl 9 Tryz.keyedStr zbx encStr slV (fun key kl hk=>by obtain⟨x,hx,_⟩:=Maps.keyOf_str Tryz.undStr hk;exact⟨x,hx⟩) (fun v y hv=>by obtain⟨s,rfl,_⟩:=zhx hv;exact⟨s,rfl⟩) b w.heap.size n _ _ _ rfl hrg ?_ ?_)
  |fail)
 .intro hc0 hl0;have hnd:ms.Nodup:=by
   have h1:=HC.out.1;exact List.Pairwise.imp (fun hne he=>hne (by rw[he])) (List.pairwise_map.1 h1)
  have hmem:∀s,s∈ms↔M s≠[]:=by
   intro s;rw[<-HH.out s];have h1:=HC.out.2 s.data.toList;constructor
   .intro hs;exact (h1.1 (List.mem_map.2 ⟨s,hs,rfl⟩)).1
   intro hs;obtain⟨q,hq,he⟩:=List.mem_map.1 (h1.2 ⟨hs,hl0 _⟩);rw[<-zbs he];exact hq
  have HSo:Hid (Calls ..):=zvu w so N c _ wr HK.out (hnd.filter _) (by omega);have HMm:Hid (∀s,s∈ms.filter (inS key en)↔(M s≠[]/\inS key en s=true)):=fun s=>by rw[List.mem_filter,hmem s]
  have HBk:Hid (∀x∈(Value.slice so N c).ownBlock.toList,w.heap.size<=x):=fun x hx=>(owns_cells HK.out.row (Option.mem_toList.1 hx)).1;have hNn:N<=n:=by omega
  clear hnd hmem hl0 hc0 HC HK hrg hrg0;go_wp2_with fail
  refine Calls.mono HSo.out ?_;rintro e w3⟨rfl,ts,hp,hi,hK3,hF3⟩;have HR:Hid (KOut w w3 so N c ts/\KsT M key en ts/\Fr [] w w3):=⟨hK3,⟨hi,fun s=>by rw[hp.mem_iff];exact HMm.out s⟩,HF.out.on hF3 HBk.out⟩;clear hp hi hK3 hF3 HSo;go_wp2;go_ret;exact⟨so,N,c,ts,rfl,HR.out.1,hNn,HR.out.2⟩
 intro x cv kl yd yp w2 cnt2 hkey hlk hv hat hrg2 hlt hg2 hs2 hen;obtain⟨x',ex,hkl,_⟩:=Maps.keyOf_str Tryz.undStr hkey;obtain rfl:x=x':=encStr_inj ex;subst hkl;obtain⟨s,hs,hsx,hks⟩:=zdw x;have HC2:Hid (Collected D0 (fun z=>left z && !z.sameKey (.string x)) ((ms++[s]).map (·.data.toList))):=by
  show Collected _ _ _;have e:(ms++[s]).map (·.data.toList)=ms.map (·.data.toList)++[x]:=by simp[hsx]
  rw[e];exact HC.out.step hlk hat
 have HF2:Hid (Fr [] w w2):=HF.out.on (Fr.grown (S:=[w.heap.size]) hg2 (by intro k hk _;cases hk;simp)) (by simp);have hnr:∀k∈(Value.slice so N c).ownBlock.toList,k≠w.heap.size:=by
  intro k hk e;have:=row_ne_iter HK.out.row hrg;rw[e]at hk
  exact this (Option.mem_toList.1 hk).symm
 have HK2:Hid (KOut w w2 so N c (ms.filter (inS key en))):=⟨HK.out.len,owns_keepB HK.out.row (Fr.grown (S:=[w.heap.size]) hg2 (by intro k hk _;cases hk;simp)) (fun k hk=>by simpa using hnr k (Option.mem_toList.2 hk))⟩;have hbr:∀k∈(Value.slice so N c).ownBlock.toList,k≠b:=by
  intro k hk e;have:=(owns_cells HK.out.row (Option.mem_toList.1 hk)).1;have:=HB.out.1;omega
 have HY:Hid (∀so' c' w3,KOut w w3 so' (N+1) c' (ms.filter (inS key en)++[s])->Fr (Value.slice so N c).ownBlock.toList w2 w3->w3.ranges Tryz.prog 9 zbx b w.heap.size n D0 (fun z=>left z && !z.sameKey (.string x)) cnt2/\Hid (KOut w w3 so' (N+1) c' (ms.filter (inS key en)++[s]))/\Hid (Fr [] w w3)):=by
  intro so' c' w3 f1 f2;refine⟨?_,f1,HF2.out.on f2 (fun k hk=>(owns_cells HK2.out.row (Option.mem_toList.1 hk)).1)⟩;obtain⟨es,clock,since,seen,c0,r1,r2,r3,r4,r5,r6⟩:=hrg2;exact⟨es,clock,since,seen,c0,f2.keep r1 (fun hm=>hbr b hm rfl),r2,r3,r4,f2.keep r5 (fun hm=>hnr _ hm rfl),r6⟩
 rw[hs]at hen ⊢
 obtain⟨G9,hG9⟩:∃G,Op.bytesLess s.toList key.toList=G:=⟨_,rfl⟩;obtain⟨E9,hE9⟩:∃E,(en.toList==([]:List UInt8))=E:=⟨_,rfl⟩;obtain⟨K9,hK9⟩:∃K,Op.bytesLess s.toList en.toList=K:=⟨_,rfl⟩;have hBB:inS key en s=(!G9&&(E9||K9)):=by rw[<-hG9,<-hE9,<-hK9];rfl
 have hfil:(ms++[s]).filter (inS key en)=if (!G9&&(E9||K9))=true then ms.filter (inS key en)++[s] else ms.filter (inS key en):=by
  rw[List.filter_append,<-hBB];by_cases hq:inS key en s=true
  .simp[List.filter_cons,hq]
  simp[List.filter_cons,hq]
 clear hkey hlk hv hat hg2 hs2 hBB ex hsx hks HC HF HK hnr hbr hrg0;have hway:(G9=false/\E9=true)\/(G9=false/\E9=false/\K9=true)\/G9=true\/(G9=false/\E9=false/\K9=false):=by
  cases G9<;>cases E9<;>cases K9<;>simp
 rcases hway with⟨rfl,rfl⟩|⟨rfl,rfl,rfl⟩|rfl|⟨rfl,rfl,rfl⟩
 .rw[if_pos (by simp)]at hfil
  have HFil:Hid ((ms++[s]).filter (inS key en)=ms.filter (inS key en)++[s]):=hfil;clear hfil;go_wp2_with (first
   |(
    at_builtin;refine zkh w w2 rfl _ _ rfl so N c _ rfl HK2.out (by omega) HF2.out.size s rfl ?_
    intro so' c' w3 hK3 hF3;have HR:Hid (_/\_/\_):=HY.out so' c' w3 hK3 hF3;clear hK3 hF3;go_frame)
   |fail)
  go_roundw;case rel=>exact⟨_,cnt2,so',N+1,c',ms++[s],rfl,HR.out.1,by simp;omega,by simp;omega,HC2,(by rw[HFil.out];exact HR.out.2.1),HR.out.2.2⟩
  case measure=>rw[HR.out.1.left_eq,hrg.left_eq];exact hlt
 .rw[if_pos (by simp)]at hfil
  have HFil:Hid ((ms++[s]).filter (inS key en)=ms.filter (inS key en)++[s]):=hfil;clear hfil;go_wp2_with (first
   |(
    at_builtin;refine zkh w w2 rfl _ _ rfl so N c _ rfl HK2.out (by omega) HF2.out.size s rfl ?_
    intro so' c' w3 hK3 hF3;have HR:Hid (_/\_/\_):=HY.out so' c' w3 hK3 hF3;clear hK3 hF3;go_frame)
   |fail)
  go_roundw;case rel=>exact⟨_,cnt2,so',N+1,c',ms++[s],rfl,HR.out.1,by simp;omega,by simp;omega,HC2,(by rw[HFil.out];exact HR.out.2.1),HR.out.2.2⟩
  case measure=>rw[HR.out.1.left_eq,hrg.left_eq];exact hlt
 .rw[if_neg (by simp)]at hfil
  have HN:Hid (Hid (KOut w w2 so N c ((ms++[s]).filter (inS key en)))):=by rw[hfil];exact HK2
  clear hfil HY;go_wp2_with fail
  go_roundw;case rel=>exact⟨_,cnt2,so,N,c,ms++[s],rfl,hrg2,by simp;omega,by simp;omega,HC2,HN.out,HF2⟩
  case measure=>rw[hrg2.left_eq,hrg.left_eq];exact hlt
 rw[if_neg (by simp)]at hfil
 have HN:Hid (Hid (KOut w w2 so N c ((ms++[s]).filter (inS key en)))):=by rw[hfil];exact HK2
 clear hfil HY;go_wp2_with fail
 go_roundw;case rel=>exact⟨_,cnt2,so,N,c,ms++[s],rfl,hrg2,by simp;omega,by simp;omega,HC2,HN.out,HF2⟩
 case measure=>rw[hrg2.left_eq,hrg.left_eq];exact hlt
def zdx(M:ByteArray->List Vn)(key en:ByteArray)(k:Int):ByteArray->Option ByteArray:=fun s=>if inS key en s=true then valAt (M s) k else none
def zap(M:ByteArray->List Vn)(k:Int)(ss:List ByteArray):List Pr:=ss.filterMap fun s=>(valAt (M s) k).map fun v=>(s,v)
theorem zrn(M:ByteArray->List Vn)(k:Int)(ss:List ByteArray)(s:ByteArray):zap M k (ss++[s])=zap M k ss++(match valAt (M s) k with|none=>[]|some v=>[(s,v)]):=by
 unfold zap;rw[List.filterMap_append];cases h:valAt (M s) k<;>simp[h]
theorem zacf{M:ByteArray->List Vn}{key en:ByteArray}{k:Int}{ss:List ByteArray}(h:KsT M key en ss):Is (zdx M key en k) (zap M k ss):=by
 refine⟨?_,fun p=> ?_⟩
 .unfold Inc zap;rw[List.pairwise_filterMap];refine h.inc.imp fun {a b} hab x hx y hy=> ?_;cases h1:valAt (M a) k with
  |none=>rw[h1]at hx;cases hx
  |some v1=>
   cases h2:valAt (M b) k with
   |none=>rw[h2]at hy;cases hy
   |some v2=>
    rw[h1]at hx
    rw[h2]at hy
    cases hx;cases hy;exact hab
 unfold zap zdx;rw[List.mem_filterMap];constructor
 .rintro⟨s,hs,e⟩;cases h1:valAt (M s) k with
  |none=>rw[h1]at e;cases e
  |some v=>
   rw[h1]at e
   cases e;rw[if_pos ((h.mem s).1 hs).2];exact h1
 intro e;by_cases hin:inS key en p.1=true
 .rw[if_pos hin]at e
  refine⟨p.1,(h.mem p.1).2 ⟨fun e2=> ?_,hin⟩,by rw[e];rfl⟩;rw[e2,zvm]at e
  cases e
 rw[if_neg hin]at e
 cases e
theorem zpb(sb:Nat)(w:World):(method 242 184 (.pointer (some ⟨sb,0,none⟩)) "towpath/shard.stretch").run Tryz.prog w=.ok (153,.pointer (some ⟨sb,0,none⟩)) w:=by kernel_rfl
theorem zzi(sb:Nat)(w:World):(method 242 184 (.pointer (some ⟨sb,0,none⟩)) "Get").run Tryz.prog w=.ok (313,.pointer (some ⟨sb,0,none⟩)) w:=by kernel_rfl
theorem Sh.keyok{w0 w:World}{sb b n:Nat}{M:ByteArray->List Vn}(h:Sh w0 w sb b n M){s:ByteArray}(hs:M s≠[]):okK9 s:=by
 obtain⟨G,_,h0,hr,_⟩:=h.map;cases hG:G s with
 |none=>exact absurd (h0 s hG) hs
 |some x=>
  obtain⟨g,L,c⟩:=x;exact (hr s g L c hG).2.2
theorem zjb{w:World}{b1 b2:Nat}{e1 e2:TypeId}{s1 s2:Nat}{v1 v2:Value}{n1 n2:Nat}{x1 x2:List Value}(h1:w.ownsRow b1 e1 s1 v1 n1 x1)(h2:w.ownsRow b2 e2 s2 v2 n2 x2)(hne:e1≠e2):∀k,v1.ownBlock=some k->k∉v2.ownBlock.toList:=by
 intro k hk hm;obtain⟨_,c1,e⟩:=owns_cells h1 hk;obtain⟨_,c2,e'⟩:=owns_cells h2 (Option.mem_toList.1 hm);rw[e]at e'
 simp only[Option.some.injEq,Obj.cells.injEq]at e';exact hne e'.2.1
theorem zvv{w0:World}{sb b n:Nat}{M:ByteArray->List Vn}(key en:ByteArray)(k:Int)(w:World)(h:Sh w0 w sb b n M)(hn:n<3518437208883) :
  Calls Tryz.prog 322 #[.iface 184 (.pointer (some ⟨sb,0,none⟩)),.string key,.string en,.int .i64 k] w fun e w'=>∃ro N rc ps,e=.returned (.slice ro N rc)/\EOut w w' ro N rc ps/\N<=n/\Is (zdx M key en k) ps/\Fr [] w w':=by
 have HS:Hid (∀W,Fr [] w W->Sh w0 W sb b n M):=fun W hf=>h.keep hf;have HT:Hid (Calls ..):=zfs key en w h hn;have m1:=zpb sb;have m2:=zzi sb;clear h;go_enter Tryz.func322,Tryz.ntmps322;go_wp2_with fail
 refine Calls.mono HT.out ?_;rintro e w1⟨so,Nk,c,ss,rfl,hK1,hNk,hKs,hF1⟩;have HK1:Hid (KOut w w1 so Nk c ss):=hK1;have HKs:Hid (KsT M key en ss/\Nk=ss.length):=⟨hKs,hK1.len⟩;have HE0:Hid (EOut w w1 none 0 0 (zap M k (ss.take 0))):=⟨rfl,⟨rfl,.inl ⟨rfl,rfl⟩⟩⟩;have HF1:Hid (Fr [] w w1):=hF1;clear HT hK1 hKs hF1 m1;go_wp2_with fail
 go_loopw [9,19] (fun ll ii wr=>∃(ro:Option Addr)(N rc i:Nat),ll=.slice ro N rc/\ii=.int .i64 i/\i<=Nk/\N<=i/\Hid (EOut w wr ro N rc (zap M k (ss.take i)))/\Hid (KOut w wr so Nk c ss)/\Hid (Fr [] w wr)) (fun _ ii _=>Nk-(RowKit.intOf ii).toNat)
 case atStart=>exact⟨none,0,0,0,rfl,rfl,Nat.zero_le _,Nat.le_refl _,HE0,HK1,HF1⟩
 obtain⟨ro,N,rc,i,rfl,rfl,hiN,hNi,HE,HK,HF⟩:=hrel;by_cases hi:i<Nk
 .have hi':i<ss.length:=by rw[<-HKs.out.2];exact hi
  obtain⟨g,rfl,cg⟩:=HK.out.at i hi';obtain⟨s,hs⟩:∃s,s=ss.getD i ⟨#[]⟩:=⟨_,rfl⟩;have hsm:s∈ss:=by rw[hs];simp[List.getD,hi']
  have HSn:Hid (zap M k (ss.take (i+1))=zap M k (ss.take i)++(match valAt (M s) k with|none=>[]|some v=>[(s,v)])):=by
   show _=_;rw[List.take_add_one,<-zrn]
   congr 1
   rw[hs];simp[List.getD,hi']
  rw[<-hs]at cg
  have hok:=(HS.out _ HF.out).keyok ((HKs.out.1.mem s).1 hsm).1;have HG:Hid (Calls ..):=zoy s k wr (HS.out _ HF.out) (by have:=hok.2;omega);clear hs hsm hok;go_wp2_with fail
  refine Calls.mono HG.out ?_;rintro e w2⟨rfl,hF2⟩;have HE2:Hid (EOut w w2 ro N rc (zap M k (ss.take i))):=⟨HE.out.len,owns_keepB HE.out.row hF2 (by simp)⟩;have HK2:Hid (KOut w w2 (some ⟨g,0,none⟩) Nk c ss):=HK.out.keep hF2;have HF2:Hid (Fr [] w w2):=HF.out.then hF2;clear HE HK HF hF2 HG;cases hv:valAt (M s) k with
  |none=>
   have HSn2:Hid (zap M k (ss.take (i+1))=zap M k (ss.take i)):=by
    show _=_;have:=HSn.out;rw[hv]at this
    simpa using this
   clear HSn;simp only[Option.getD_none,Option.isSome_none];go_wp2_with fail
   go_roundw;case rel=>exact⟨ro,N,rc,i+1,rfl,by simp,by omega,by omega,(by rw[HSn2.out];exact HE2),HK2,HF2⟩
   case measure=>simp[RowKit.intOf];omega
  |some v=>
   have HSn2:Hid (zap M k (ss.take (i+1))=zap M k (ss.take i)++[(s,v)]):=by
    have:=HSn.out;rw[hv]at this
    exact this
   have HNq:Hid (N=(zap M k (ss.take i)).length):=HE2.out.len;have HEa:Hid ((w2.alloc (.cells #[.string s,.string v] 61)).ownsRow w.heap.size 61 2 (.slice ro N rc) (zap M k (ss.take i)).length (celsE (zap M k (ss.take i)))):=by
    show World.ownsRow _ _ _ _ _ _ _;rw[<-HNq.out];exact owns_keepB HE2.out.row (Fr.alloc [] _ _) (by simp)
   have HY:Hid (∀bo n' cap' w',n'=(zap M k (ss.take i)++[(s,v)]).length->w'.ownsRow w.heap.size 61 2 (.slice bo n' cap') n' (celsE (zap M k (ss.take i)++[(s,v)]))->Fr (Value.slice ro N rc).ownBlock.toList (w2.alloc (.cells #[.string s,.string v] 61)) w'->n'=N+1/\Hid (EOut w w' bo n' cap' (zap M k (ss.take (i+1))))/\Hid (KOut w w' (some ⟨g,0,none⟩) Nk c ss)/\Hid (Fr [] w w')):=by
    intro bo n' cap' w' e1 e2 e3;refine⟨by rw[e1,List.length_append,<-HNq.out];rfl,⟨by rw[HSn2.out];exact e1,by rw[HSn2.out];exact e2⟩,⟨HK2.out.len,owns_keepB (owns_keepB HK2.out.row (Fr.alloc [] w2 _) (by simp)) e3 ?_⟩,?_⟩
    .exact zjb (owns_keepB HK2.out.row (Fr.alloc [] w2 (.cells #[.string s,.string v] 61)) (by simp)) HEa.out (by decide)
    exact (HF2.out.then (Fr.alloc [] w2 _)).on e3 (fun x hx=>(owns_cells HEa.out (Option.mem_toList.1 hx)).1)
   have hNb:(zap M k (ss.take i)).length+1<3518437208884:=by have:=HNq.out;omega
   clear HSn;simp only[Option.getD_some,Option.isSome_some];have HSz:Hid (w.heap.size<=(w2.alloc (.cells #[.string s,.string v] 61)).heap.size):=(HF2.out.then (Fr.alloc [] w2 _)).size;go_wp2_with (first
    |(
     at_builtin;refine wpList_appE _ rfl _ _ rfl w.heap.size (.slice ro N rc) (zap M k (ss.take i)) rfl HEa.out (some ⟨w2.heap.size,0,none⟩) 1 1 [(s,v)] rfl (esl_new w2 (s,v)) hNb HSz.out ?_
     intro bo n' cap' w3 e1 e2 e3;obtain⟨hn',HR⟩:=HY.out bo n' cap' w3 e1 e2 e3;subst hn';have HR2:Hid (_/\_/\_):=HR;clear e1 e2 e3 HR;go_frame)
    |fail)
   go_roundw;case rel=>exact⟨bo,N+1,cap',i+1,rfl,by simp,by omega,by omega,HR2.out.1,HR2.out.2.1,HR2.out.2.2⟩
   case measure=>simp[RowKit.intOf];omega
 have hiN2:i=ss.length:=by have:=HKs.out.2;omega
 have HR:Hid (EOut w wr ro N rc (zap M k ss)/\Is (zdx M key en k) (zap M k ss)/\Fr [] w wr):=by
  have h1:=HE.out;rw[hiN2,List.take_length]at h1
  exact⟨h1,zacf HKs.out.1,HF.out⟩
 have hNn:N<=n:=by omega
 clear hiN2 HE HK HF;go_wp2;go_ret;exact⟨ro,N,rc,_,rfl,HR.out.1,hNn,HR.out.2⟩
theorem zvw{w0:World}{sb b n:Nat}{M:ByteArray->List Vn}(key en:ByteArray)(k:Int)(w:World)(h:Sh w0 w sb b n M)(hn:n<3518437208883) :
  Calls Tryz.prog 315 #[.pointer (some ⟨sb,0,none⟩),.string key,.string en,.int .i64 k] w fun e w'=>∃ro N rc ps,e=.returned (.slice ro N rc)/\EOut w w' ro N rc ps/\N<=n/\Is (zdx M key en k) ps/\Fr [] w w':=by
 have HT:Hid (Calls ..):=zdb w h;have HS:Hid (∀W,Fr [] w W->Sh w0 W sb b n M):=fun W hf=>h.keep hf;clear h;go_enter Tryz.func315,Tryz.ntmps315;go_wp2_with fail
 refine Calls.mono HT.out ?_;rintro e w1⟨rfl,hF1⟩;have HC:Hid (Calls ..):=zvv key en k w1 (HS.out _ hF1) hn;have HF1:Hid (Fr [] w w1):=hF1;clear HT hF1;go_wp2_with fail
 refine Calls.mono HC.out ?_;rintro e w2⟨ro,N,rc,ps,rfl,hE,hN,hI,hF2⟩;have HR:Hid (EOut w w2 ro N rc ps/\N<=n/\Is (zdx M key en k) ps/\Fr [] w w2):=⟨⟨hE.len,own_base hE.row HF1.out.size⟩,hN,hI,HF1.out.then hF2⟩;clear HC hE hN hI hF2;go_wp2;go_ret;exact⟨ro,N,rc,ps,rfl,HR.out⟩
end Go.Proofs.YtakbodlicfmkjaaGreat.O
