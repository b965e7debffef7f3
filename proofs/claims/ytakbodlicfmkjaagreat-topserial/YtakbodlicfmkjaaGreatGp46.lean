/- Contracts and lemmas. -/
import Derived.Test.YtakbodlicfmkjaaGreatGp36
import Derived.Test.YtakbodlicfmkjaaGreatGp14
import Derived.Shelf.SlSortCmp.WholeK
import Derived.Shelf.Small.Strs
set_option maxHeartbeats 1000000
set_option linter.unusedVariables false
namespace Go.Proofs.YtakbodlicfmkjaaGreat.Fo
open Go.ChangeShapes Go.WideShapes Go.ChangeAt Go.RowKit Go.Lib Go.Maps Go.Sort Go.Shelf
shelf_lay_g SlLaysF0.n6 Slsf 6 at Tryz 73 as Tryz.sortEn
shelf_lay Lays.n106 Nm 106 at Tryz as Tryz.strCmp
def cfE(x y:Pr):Int:=compareBytes x.1.data.toList y.1.data.toList
theorem zjm(x y:Pr)(W:World):Calls Tryz.prog 41 #[.agg #[.string x.1,.string x.2],.agg #[.string y.1,.string y.2]] W fun e w'=>e=.returned (.int .i64 (cfE x y))/\∃q os',w'=grow (W.drewN q) os':=by
 have hcon:=fun W'=>Any.strings_Compare Tryz.strCmp x.1 y.1 W'
 change ∀W',Calls Tryz.prog 50 _ _ _ at hcon
 unfold cfE;generalize compareBytes x.1.data.toList y.1.data.toList=r at hcon ⊢;go_enter Tryz.func41,Tryz.ntmps41;go_wp2_with (go_at_call 50;refine (hcon _).mono ?_;rintro e w'⟨rfl,rfl⟩)
 go_ret;exact⟨rfl,0,_,by rw[alloc_eq_grow,alloc_eq_grow,grow_grow];rfl⟩
theorem zck(x y:Pr):ltOf cfE x y=Op.bytesLess x.1.toList y.1.toList:=by
 unfold ltOf cfE;rw[ByteArray.toList_eq,ByteArray.toList_eq];have h:=zor x.1.data.toList y.1.data.toList;cases hb:Op.bytesLess x.1.data.toList y.1.data.toList with
 |true=>simpa using h.2 hb
 |false=>
  rw[hb]at h
  simpa using h
theorem swoE:SWO (ltOf cfE) where
 irrefl x:=by rw[zck];exact zbw _
 trans x y z h1 h2:=by rw[zck]at *;exact zee h1 h2
 ntrans x y z h1 h2:=by rw[zck]at *;exact zmv h1 h2
theorem zeg:∀(ps:List Pr)(t:Nat),t<ps.length*2->(celsE ps)[t]? = some ((celE ps[t/2]!)[t%2]!)
 | [],t,h=>by simp at h
 |p::ps,0,h=>by simp[celsE,celE]
 |p::ps,1,h=>by simp[celsE,celE]
 |p::ps,(t+2),h=>by
  have ih:=zeg ps t (by simp at h;omega);have e1:(t+2)/2=t/2+1:=by omega
  have e2:(t+2)%2=t%2:=by omega
  rw[e1,e2];have e3:(celsE (p::ps))[t+2]? = (celsE ps)[t]? :=by simp[celsE,celE]
  rw[e3,ih];simp
theorem zlv(ps:List Pr):flatK celE 2 ps.toArray=(celsE ps).toArray:=by
 apply Array.ext_getElem?;intro t;by_cases h:t<ps.length*2
 .have h1:t<(flatK celE 2 ps.toArray).size:=by rw[size_flatK];simpa using h
  have h2:=get_flatK celE 2 ps.toArray t (by simpa using h);rw[getElem!_pos _ t h1]at h2
  rw[Array.getElem?_eq_getElem h1,h2,List.getElem?_toArray,zeg ps t h];simp
 rw[Array.getElem?_eq_none (by rw[size_flatK];simp;omega),Array.getElem?_eq_none (by simp[zbg];omega)]
theorem zqh{w:World}{g:Nat}{cur:Array Value}{e:TypeId}{ps:List Pr}(hb:w.heap[g]? = some (.cells cur e (0,0)))(ht:cur.toList.take (ps.length*2)=celsE ps):HoldsK celE 2 w g 0 ps.toArray:=by
 unfold HoldsK;rw[zlv];intro j hj;have hj':j<ps.length*2:=by simp[zbg]at hj;omega
 refine⟨?_,by simp[World.frozen?,hb]⟩;have h1:(cur.toList.take (ps.length*2))[j]? = (celsE ps)[j]? :=by rw[ht]
 rw[List.getElem?_take_of_lt hj']at h1
 rw[crw hb,Nat.zero_add,<-Array.getElem?_toList,h1];have hl:j<(celsE ps).length:=by rw[zbg];omega
 simp[hl]
theorem zue{w:World}{g n:Nat}{os:Array Obj}{cur:Array Value}{e:TypeId}{fr:Nat×Nat}(d:Array Pr)(hb:w.heap[g]? = some (.cells cur e fr)) :
  (sortWorldK celE 2 w g 0 n d os).heap[g]? = some (.cells (putCells id 0 (flatK celE 2 d) cur) e fr):=by
 have hg:g<w.heap.size:=(Array.getElem?_eq_some_iff.1 hb).1;unfold sortWorldK putRowK;rw[heap_grow_old _ _ (by simpa using hg)];simp[putRow,mapBlock,Sort.ahead,Array.getElem?_modify,hb,onCells]
theorem zqi{w:World}{g n:Nat}{os:Array Obj}(d:Array Pr):w.grownBy (sortWorldK celE 2 w g 0 n d os) (some g):=by
 unfold sortWorldK putRowK;refine⟨rfl,rfl,rfl,by simp,fun k hk hne=> ?_⟩;rw[heap_grow_old _ _ (by simpa using hk)];have:g≠k:=fun e=>hne (by rw[e]);simp[putRow,mapBlock,Sort.ahead,Array.getElem?_modify,this]
theorem zjn(cur:Array Value)(vs:List Value)(h:vs.length<=cur.size):(putCells id 0 vs.toArray cur).toList.take vs.length=vs:=by
 apply List.ext_getElem?;intro j;by_cases hj:j<vs.length
 .rw[List.getElem?_take_of_lt hj,Array.getElem?_toList];simp[putCells,hj,show j<cur.size by omega]
 rw[List.getElem?_take_eq_none (by omega),List.getElem?_eq_none (by omega)]
def Sd(ps:List Pr):Prop:=ps.Pairwise fun a b=>Op.bytesLess b.1.toList a.1.toList=false
theorem zuf{ds:List Pr}(h:SortedIn (ltOf cfE) 0 ds.length ds.toArray):Sd ds:=by
 unfold Sd;rw[List.pairwise_iff_getElem];intro i j hi hj hij;have:=h i j (Nat.zero_le _) hij hj;rw[zck]at this
 simpa[hi,hj]using this
theorem Tryz.isAggEn(w:World):(isAgg 61).run Tryz.prog w=.ok true w:=by kernel_rfl
theorem Tryz.sizeOfEn(w:World):(Go.sizeOf 61).run Tryz.prog w=.ok 2 w:=by kernel_rfl
theorem zku(x:Pr):∀v∈celE x,v.oneCell'=true:=zhw x
theorem zil(base g cap:Nat)(ps:List Pr)(w:World)(hrow:w.ownsRow base 61 2 (.slice (some ⟨g,0,none⟩) ps.length cap) ps.length (celsE ps))(hlen:ps.length<1099511627776) :
  Calls Tryz.prog 73 #[.slice (some ⟨g,0,none⟩) ps.length cap,.func (.func 41) #[] #[]] w fun e w'=>e=.returned (.tuple #[])/\∃ds,ds.Perm ps/\Sd ds/\w'.ownsRow base 61 2 (.slice (some ⟨g,0,none⟩) ps.length cap) ps.length (celsE ds)/\Fr [g] w w':=by
 obtain⟨hl,hr⟩:=hrow;rcases hr with⟨hh,_⟩|⟨g',cap',cur,hh,hbase,hb,h1,h2,h3,h4⟩
 .cases hh
 cases hh;have eg:∀args w,(callFunc 41 args).run Tryz.prog w=.ok (.enter 41 args) w:=enters_of Tryz.func41 (by kernel_rfl) rfl;have hcmp:CmpLays Tryz.prog 41 #[] celE 2 cfE g 0 ps.toArray.size w:=fun _ _ _ _ x y=>zjm x y _;have hcon:=AnyQ.slices_SortFunc Tryz.sortEn 2 Tryz.isAggEn Tryz.sizeOfEn celE (fun _=>rfl) zku cfE swoE 41 #[] g 0 cap ps.toArray w eg hcmp (zqh hb h4) (lt_of_block hb) (by simp;omega)
 change Calls Tryz.prog 73 _ _ _ at hcon
 have hsz:ps.toArray.size=ps.length:=by simp
 rw[hsz]at hcon
 refine hcon.mono ?_;rintro e w'⟨rfl,d',n,os,hp,hs,rfl⟩;obtain⟨hs1,_,hp1⟩:=hp;have hd:d'.toList.length=ps.length:=by simpa using hs1
 refine⟨rfl,d'.toList,?_,?_,⟨?_,.inr ⟨g,cap,_,rfl,hbase,zue d' hb,h1,h2,by simp[putCells,h3],?_⟩⟩,Fr.grown (zqi d') (by intro k hk _;cases hk;simp)⟩
 .have e1:d'.extract 0 ps.length=d':=by rw[<-hd];simp
  have e2:ps.toArray.extract 0 ps.length=ps.toArray:=by simp
  rw[e1,e2]at hp1
  simpa using hp1
 .refine zuf ?_;rw[hd];simpa using hs
 .rw[zbg,hd];omega
 have e1:flatK celE 2 d'=(celsE d'.toList).toArray:=by rw[<-zlv]
 have e2:ps.length*2=(celsE d'.toList).length:=by rw[zbg,hd];omega
 rw[e1,e2];exact zjn cur _ (by rw[zbg,hd,h3];omega)
end Go.Proofs.YtakbodlicfmkjaaGreat.Fo
