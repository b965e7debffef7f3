/- Contracts and lemmas. -/
import Derived.Test.YtojjdnjfaelnfaaGreatDoorGp10
import Derived.Stop.Asserts
set_option maxHeartbeats 4000000
set_option maxRecDepth 100000
set_option linter.unusedSimpArgs false
set_option linter.unusedVariables false
namespace Go.Proofs.YtojjdnjfaelnfaaGreatDoor
open Go.ChangeShapes Go.WideShapes Go.ChangeAt Go.RowKit Go.Lib Go.Maps Go.Proofs.Tryz
theorem zaa{w:World}{b j:Nat}{cs:Array Value}{t:TypeId}(x:Value)(h:w.heap[b]? = some (.cells cs t (0,0))):(w.setCell ⟨b,j,none⟩ x).heap[b]? = some (.cells (cs.setIfInBounds j x) t (0,0)):=by
 have hlt:=lt_of_block h;have h':w.heap[b]=.cells cs t (0,0):=by simpa[Array.getElem?_eq_getElem hlt]using h
 show (w.heap.modify b _)[b]? = _;rw[Array.getElem?_eq_getElem (by simpa using hlt),Array.getElem_modify_self,h'];rfl
structure Hl where
 n:Int
 l:List Wt
 out:Nat
structure UwM(w:World)(ub:Nat)(n:Int)(ao:Option Addr)(N cp out:Nat)(l:List Wt):Prop where
 box:w.heap[ub]? = some (.cells #[.int .i64 n,.slice ao N cp,.int .i64 (out:Int)] 424 (0,0))
 len:N=l.length
 cap:N<=cp
 rs:WRs w ao l
 ne:0<l.length->∀a,ao=some a->a.block≠ub
 lid:out+l.length<=1000000
theorem UwM.keep{S:List Nat}{w w':World}{ub:Nat}{n:Int}{ao:Option Addr}{N cp out:Nat}{l:List Wt}(h:UwM w ub n ao N cp out l)(hf:Fr S w w')(h1:ub∉S)(h2:0<l.length->∀a,ao=some a->a.block∉S):UwM w' ub n ao N cp out l:=
 ⟨hf.keep h.box h1,h.len,h.cap,h.rs.keepS hf h2,h.ne,h.lid⟩
section
variable{w:World}{ub:Nat}{n:Int}{ao:Option Addr}{N cp out:Nat}{l:List Wt}
theorem UwM.c0(h:UwM w ub n ao N cp out l):w.cell? ⟨ub,0,none⟩=some (.int .i64 n):=by rw[crw h.box];rfl
theorem UwM.c1(h:UwM w ub n ao N cp out l):w.cell? ⟨ub,1,none⟩=some (.slice ao N cp):=by rw[crw h.box];rfl
theorem UwM.c2(h:UwM w ub n ao N cp out l):w.cell? ⟨ub,2,none⟩=some (.int .i64 (out:Int)):=by rw[crw h.box];rfl
theorem UwM.fz(h:UwM w ub n ao N cp out l)(j:Nat):w.frozen? ⟨ub,j,none⟩=false:=by simp[World.frozen?,h.box]
theorem zgj(h:UwM w ub n ao N cp out l):Calls prog 475 #[.pointer (some ⟨ub,0,none⟩)] w fun e w'=>e=.returned (.int .i64 n)/\w=w':=by
 have c0:=h.c0;clear h;go_enter func475,ntmps475;go_wp2;go_ret;exact⟨rfl,rfl⟩
theorem zgk(h:UwM w ub n ao N cp out l)(B:Bool)(hB:B=true↔l=[]/\out=0):Calls prog 477 #[.pointer (some ⟨ub,0,none⟩)] w fun e w'=>e=.returned (.bool B)/\w=w':=by
 have c1:=h.c1;have c2:=h.c2;have hN:=h.len;have HB:Hid (B=true↔N=0/\out=0):=by
  show _↔_;rw[hB,hN,List.length_eq_zero_iff]
 clear h hN hB;by_cases h0:N=0
 .subst h0;by_cases h1:out=0
  .subst h1;have HR:Hid (B=true):=HB.out.2 ⟨rfl,rfl⟩;go_enter func477,ntmps477;go_wp2;go_ret;exact⟨by rw[HR.out];rfl,rfl⟩
  have h1':((out:Int)==0)=false:=by rw[beq_eq_false_iff_ne];omega
  have HR:Hid (B=false):=by show B=false;simpa using fun h:B=true=>h1 (HB.out.1 h).2
  clear h1;go_enter func477,ntmps477;go_wp2;go_ret;exact⟨by rw[HR.out];simp[h1'],rfl⟩
 have h0':((N:Int)==0)=false:=by rw[beq_eq_false_iff_ne];omega
 have HR:Hid (B=false):=by show B=false;simpa using fun h:B=true=>h0 (HB.out.1 h).1
 clear h0;go_enter func477,ntmps477;go_wp2;go_ret;exact⟨by rw[HR.out];simp[h0'],rfl⟩
def nxW(l:List Wt):Wt:=l.headD Wt.zero
def nxB(l:List Wt):Bool:= !l.isEmpty
theorem zle(h:UwM w ub n ao N cp out l):Calls prog 476 #[.pointer (some ⟨ub,0,none⟩)] w fun e w'=>e=.returned (.tuple #[.agg #[.string (nxW l).key,.string (nxW l).val,.bool (nxW l).drop],.bool (nxB l)])/\Fr [] w w':=by
 have hF0:Fr [] w (w.alloc (.cells #[.string ⟨#[]⟩,.string ⟨#[]⟩,.bool false] 91)):=Fr.alloc [] w _;have h1:=h.keep hF0 (by simp) (by simp);have c1:=h1.c1;have hN:=h.len;have hlt:=lt_of_block h.box;cases l with
 |nil=>
  obtain rfl:N=0:=hN;clear h h1;go_enter func476,ntmps476;go_wp2_with fail
  refine bodyPost_ret (v:=.tuple #[.agg #[.string ⟨#[]⟩,.string ⟨#[]⟩,.bool false],.bool false]) (by rw[results_cell_tmp rfl];go_simp) rfl ⟨rfl,?_⟩;exact Fr.alloc [] w _
 |cons x r=>
  obtain⟨b,off,rfl,hb,hc⟩:=h1.rs.lies (by simp);obtain⟨d0,d1,d2⟩:=hc 0 (by simp);simp only[List.getD_cons_zero,Nat.zero_mul,Nat.add_zero]at d0 d1 d2;obtain⟨key,val,drop⟩:=x;simp only at d0 d1 d2;simp only[nxW,nxB,List.headD_cons,List.isEmpty_cons,Bool.not_false];have hN1:((N:Int)==0)=false:=by rw[beq_eq_false_iff_ne];simp at hN;omega
  have hN2:0<N:=by simp at hN;omega
  clear h h1 hc hb hN;go_enter func476,ntmps476;go_wp2_with fail
  refine bodyPost_ret (v:=.tuple #[.agg #[.string key,.string val,.bool drop],.bool true]) (by rw[results_cell_tmp rfl];go_simp) rfl ⟨rfl,?_⟩;exact Fr.alloc [] w _
def zpa(ao ao':Option Addr):Prop:=∀a',ao'=some a'->∃a,ao=some a/\a'.block=a.block
theorem zsm(h:UwM w ub n ao N cp out []):Calls prog 478 #[.pointer (some ⟨ub,0,none⟩)] w fun e w'=>e=.returned (.bool false)/\w=w':=by
 have c1:=h.c1;obtain rfl:N=0:=h.len;clear h;go_enter func478,ntmps478;go_wp2;go_ret;exact⟨rfl,rfl⟩
theorem UwM.cut{x:Wt}{b off:Nat}(h:UwM w ub n (some ⟨b,off,none⟩) (N+1) cp out (x::l))(so:Option Addr)(hso:so=if cp=1 then some ⟨b,off,none⟩ else some ⟨b,off+3,none⟩)(u:Value)(hu:u=.int .i64 ((out+1:Nat):Int)) :
  UwM ((w.setCell ⟨ub,1,none⟩ (.slice so N (cp-1))).setCell ⟨ub,2,none⟩ u) ub n so N (cp-1) (out+1) l/\Fr [ub] w ((w.setCell ⟨ub,1,none⟩ (.slice so N (cp-1))).setCell ⟨ub,2,none⟩ u)/\zpa (some ⟨b,off,none⟩) so/\(w.setCell ⟨ub,1,none⟩ (.slice so N (cp-1))).cell? ⟨ub,2,none⟩=some (.int .i64 (out:Int))/\(w.setCell ⟨ub,1,none⟩ (.slice so N (cp-1))).frozen? ⟨ub,2,none⟩=false:=by
 have f1:Fr [ub] w (w.setCell ⟨ub,1,none⟩ (.slice so N (cp-1))):=Fr.set _ _ _ (by simp);have f2:Fr [ub] (w.setCell ⟨ub,1,none⟩ (.slice so N (cp-1))) ((w.setCell ⟨ub,1,none⟩ (.slice so N (cp-1))).setCell ⟨ub,2,none⟩ u):=Fr.set _ _ _ (by simp);have hF:=f1.then f2;have hb1:=zaa (j:=1) (.slice so N (cp-1)) h.box;have hb2:=zaa (j:=2) u hb1;have hbu:b≠ub:=h.ne (by simp) _ rfl;have hsb:zpa (some ⟨b,off,none⟩) so:=by
  intro a' ha;refine⟨_,rfl,?_⟩;rw[hso]at ha
  split at ha<;>(cases ha;rfl)
 have hlen:N=l.length:=by have:=h.len;simp at this;exact this
 have hcap:=h.cap;have hlid:out+1+l.length<=1000000:=by have:=h.lid;simp at this;omega
 refine⟨⟨?_,hlen,by omega,?_,?_,hlid⟩,hF,hsb,?_,?_⟩
 .rw[hb2,hu];rfl
 .have hr:=h.rs.keepS hF (by intro _ a ha;cases ha;simpa using hbu);obtain⟨b',off',e,hb,hc⟩:=hr.lies (by simp);cases e;refine⟨fun h0=> ?_,by have:=hr.few;simp at this;omega,fun y hy=>hr.each y (List.mem_cons_of_mem _ hy)⟩;have hne:cp≠1:=by rintro rfl;omega
  rw[if_neg hne]at hso
  refine⟨b,off+3,hso,hb,fun i hi=> ?_⟩;have:=hc (i+1) (by simp;omega);simp only[List.getD_cons_succ]at this;rw[show off+3+i*3=off+(i+1)*3 by omega];exact this
 .intro h0 a ha;obtain⟨a0,e0,e1⟩:=hsb a ha;cases e0;rw[e1];exact hbu
 .rw[crw hb1];rfl
 simp[World.frozen?,hb1]
theorem zva{x:Wt}(h:UwM w ub n ao N cp out (x::l)):Calls prog 478 #[.pointer (some ⟨ub,0,none⟩)] w fun e w'=>e=.returned (.bool true)/\∃ao' N' cp',UwM w' ub n ao' N' cp' (out+1) l/\Fr [ub] w w'/\zpa ao ao':=by
 obtain⟨N,rfl⟩:∃n',N=n'+1:=⟨l.length,by have:=h.len;simpa using this⟩;obtain⟨b,off,rfl,_⟩:=h.rs.lies (by simp);have c1:=h.c1;have c2:=h.c2;have z1:=h.fz 1;have hcap:=h.cap;have hfew:=h.rs.few;have hNl:=h.len;have hN63:N<=140737488355328:=by omega
 have ho:out<1000000:=by have:=h.lid;simp at this;omega
 have hN0:(((N+1:Nat):Int)==0)=false:=by rw[beq_eq_false_iff_ne];omega
 have hu:Value.int .i64 ((out:Int)+1)=.int .i64 ((out+1:Nat):Int):=by simp
 by_cases h1:cp=1
 .subst h1;have hn:N=0:=by omega
  subst hn;have HM:Hid (_/\_/\_/\_/\_):=h.cut (some ⟨b,off,none⟩) (by rw[if_pos rfl]) _ hu;obtain⟨_,_,_,y1,y2⟩:=HM.out;clear h hfew hNl hu;go_enter func478,ntmps478;go_wp2;go_ret;obtain⟨m1,m2,m3,_⟩:=HM.out;exact⟨rfl,_,_,_,m1,m2,m3⟩
 have HM:Hid (_/\_/\_/\_/\_):=h.cut (some ⟨b,off+3,none⟩) (by rw[if_neg h1]) _ hu;obtain⟨_,_,_,y1,y2⟩:=HM.out;have hc1:1<=cp:=by omega
 clear h hfew hNl hu;go_enter func478,ntmps478;go_wp2;go_ret;obtain⟨m1,m2,m3,_⟩:=HM.out;exact⟨rfl,_,_,_,m1,m2,m3⟩
theorem zvb(h:UwM w ub n ao N cp 0 l):Calls prog 474 #[.pointer (some ⟨ub,0,none⟩)] w fun e w'=>e=.returned (.bool false)/\w=w':=by
 have c2:=h.c2;clear h;go_enter func474,ntmps474;go_wp2;go_ret;exact⟨rfl,rfl⟩
theorem zxl(h:UwM w ub n ao N cp (out+1) l):Calls prog 474 #[.pointer (some ⟨ub,0,none⟩)] w fun e w'=>e=.returned (.bool true)/\UwM w' ub n ao N cp out l/\Fr [ub] w w':=by
 have c2:=h.c2;have z2:=h.fz 2;have hl:=h.lid;have HM:Hid (UwM (w.setCell ⟨ub,2,none⟩ (.int .i64 (out:Int))) ub n ao N cp out l/\Fr [ub] w (w.setCell ⟨ub,2,none⟩ (.int .i64 (out:Int)))):=by
  have f1:Fr [ub] w (w.setCell ⟨ub,2,none⟩ (.int .i64 (out:Int))):=Fr.set _ _ _ (by simp);refine⟨⟨?_,h.len,h.cap,h.rs.keepS f1 (fun h0 a ha=>by simpa using h.ne h0 a ha),h.ne,by omega⟩,f1⟩;rw[zaa _ h.box];rfl
 have h0:((((out+1:Nat):Int))==0)=false:=by rw[beq_eq_false_iff_ne];omega
 clear h;go_enter func474,ntmps474;go_wp2;go_ret;exact⟨rfl,HM.out.1,HM.out.2⟩
end
theorem zsn(w:World):Calls prog 262 #[.agg #[]] w fun e w'=>e=.returned (.int .i64 0)/\Fr [] w w':=by
 go_enter func262,ntmps262;go_wp2;go_ret;exact⟨rfl,Fr.alloc _ _ _⟩
theorem zso(w:World):Calls prog 263 #[.agg #[]] w fun e w'=>e=.returned (.bool false)/\Fr [] w w':=by
 go_enter func263,ntmps263;go_wp2;go_ret;exact⟨rfl,Fr.alloc _ _ _⟩
def noV:Value:=.iface 293 (.agg #[])
def uwV(ub:Nat):Value:=.iface 421 (.pointer (some ⟨ub,0,none⟩))
def LnB(w:World)(lb:Nat)(nm l s x q:Int)(v:Value):Prop:=w.heap[lb]? = some (.cells #[.int .i64 nm,.int .i64 l,.int .i64 s,.int .i64 x,.int .i64 q,v] 200 (0,0))
def LnM(w:World)(lb:Nat)(nm l s x q:Int)(st:Option Hl)(S:List Nat):Prop:=
 match st with
 |none=>LnB w lb nm l s x q noV
 |some h=>∃ub ao N cp,LnB w lb nm l s x q (uwV ub)/\UwM w ub h.n ao N cp h.out h.l/\lb≠ub/\ub∈S/\(0<h.l.length->∀a,ao=some a->a.block∈S/\a.block≠lb)
section
variable{w:World}{lb:Nat}{nm l s x q:Int}{v:Value}{st:Option Hl}{S:List Nat}
theorem LnB.c0(h:LnB w lb nm l s x q v):w.cell? ⟨lb,0,none⟩=some (.int .i64 nm):=by rw[crw h];rfl
theorem LnB.c1(h:LnB w lb nm l s x q v):w.cell? ⟨lb,1,none⟩=some (.int .i64 l):=by rw[crw h];rfl
theorem LnB.c2(h:LnB w lb nm l s x q v):w.cell? ⟨lb,2,none⟩=some (.int .i64 s):=by rw[crw h];rfl
theorem LnB.c3(h:LnB w lb nm l s x q v):w.cell? ⟨lb,3,none⟩=some (.int .i64 x):=by rw[crw h];rfl
theorem LnB.c4(h:LnB w lb nm l s x q v):w.cell? ⟨lb,4,none⟩=some (.int .i64 q):=by rw[crw h];rfl
theorem LnB.c5(h:LnB w lb nm l s x q v):w.cell? ⟨lb,5,none⟩=some v:=by rw[crw h];rfl
theorem LnB.fz(h:LnB w lb nm l s x q v)(j:Nat):w.frozen? ⟨lb,j,none⟩=false:=by unfold LnB at h;simp[World.frozen?,h]
theorem LnB.keep{T:List Nat}{w':World}(h:LnB w lb nm l s x q v)(hf:Fr T w w')(hn:lb∉T):LnB w' lb nm l s x q v:=hf.keep h hn
theorem LnB.set(h:LnB w lb nm l s x q v)(u:Value):LnB (w.setCell ⟨lb,5,none⟩ u) lb nm l s x q u:=by
 unfold LnB;rw[zaa _ h];rfl
theorem LnM.keep{T:List Nat}{w':World}(h:LnM w lb nm l s x q st S)(hf:Fr T w w')(h0:lb∉T)(h1:∀k∈S,k∉T):LnM w' lb nm l s x q st S:=by
 cases st with
 |none=>exact LnB.keep h hf h0
 |some hl=>
  obtain⟨ub,ao,N,cp,hb,hu,hne,hS,hr⟩:=h;exact⟨ub,ao,N,cp,hb.keep hf h0,hu.keep hf (h1 _ hS) (fun hp a ha=>h1 _ (hr hp a ha).1),hne,hS,hr⟩
theorem LnM.lt(h:LnM w lb nm l s x q st S):lb<w.heap.size:=by
 cases st with
 |none=>exact lt_of_block h
 |some hl=>
  obtain⟨ub,ao,N,cp,hb,_⟩:=h;exact lt_of_block hb
theorem LnM.kept(h:LnM w lb nm l s x q st S):∀W,Fr [] w W->LnM W lb nm l s x q st S:=fun W hf=>h.keep hf (by simp) (by simp)
theorem zajy:prog.underlying 198=some (.interface (prog.methodsAt 198)):=by kernel_rfl
theorem zado:prog.underlying 416=some (.interface (prog.methodsAt 416)):=by kernel_rfl
theorem zajz(w:World):(Instr.typeAssert (.iface 293 (.agg #[])) 198 416 true).run prog w=.ok (.tuple #[.nilIface,.bool false]) w:=run_typeAssert_lacksB zado (by kernel_rfl) (by kernel_rfl) _ _ w
theorem zaka(ub:Nat)(w:World):(Instr.typeAssert (.iface 421 (.pointer (some ⟨ub,0,none⟩))) 198 416 true).run prog w=.ok (.tuple #[.iface 421 (.pointer (some ⟨ub,0,none⟩)),.bool true]) w:=run_typeAssert_hasB zado (by kernel_rfl) _ _ w
theorem zxp(w:World):(method 662 293 (.agg #[]) "towpath/lane.holds").run prog w=.ok (262,.agg #[]) w:=by kernel_rfl
theorem zxq(w:World):(method 662 293 (.agg #[]) "towpath/lane.ready").run prog w=.ok (263,.agg #[]) w:=by kernel_rfl
theorem zin(ub:Nat)(w:World):(method 662 421 (.pointer (some ⟨ub,0,none⟩)) "towpath/lane.holds").run prog w=.ok (475,.pointer (some ⟨ub,0,none⟩)) w:=by kernel_rfl
theorem znj(ub:Nat)(w:World):(method 662 421 (.pointer (some ⟨ub,0,none⟩)) "towpath/lane.ready").run prog w=.ok (477,.pointer (some ⟨ub,0,none⟩)) w:=by kernel_rfl
theorem zqa(ub:Nat)(w:World):(method 662 421 (.pointer (some ⟨ub,0,none⟩)) "towpath/lane.next").run prog w=.ok (476,.pointer (some ⟨ub,0,none⟩)) w:=by kernel_rfl
theorem zaav(ub:Nat)(w:World):(method 662 421 (.pointer (some ⟨ub,0,none⟩)) "towpath/lane.send").run prog w=.ok (478,.pointer (some ⟨ub,0,none⟩)) w:=by kernel_rfl
theorem zaen(ub:Nat)(w:World):(method 662 421 (.pointer (some ⟨ub,0,none⟩)) "towpath/lane.acknowledge").run prog w=.ok (474,.pointer (some ⟨ub,0,none⟩)) w:=by kernel_rfl
theorem zhi{t:TypeId}{y:Value}(h:LnB w lb nm l s x q (.iface t y)):Calls prog 115 #[.pointer (some ⟨lb,0,none⟩)] w fun e w'=>e=.returned (.bool true)/\w=w':=by
 have c5:=h.c5;have qn:∀w,(binOp .neq 198 (.iface t y) .nilIface).run prog w=.ok (.bool true) w:=fun w=>run_neq_held_nil w 198 t y zajy;clear h;go_enter func115,ntmps115;go_wp2;go_ret;exact⟨rfl,rfl⟩
theorem zdc(h:LnM w lb nm l s x q st S):Calls prog 115 #[.pointer (some ⟨lb,0,none⟩)] w fun e w'=>e=.returned (.bool true)/\w=w':=by
 cases st with
 |none=>exact zhi (t:=293) h
 |some hl=>
  obtain⟨ub,ao,N,cp,hb,_⟩:=h;exact zhi (t:=421) hb
theorem zdi(h:LnB w lb nm l s x q noV):Calls prog 300 #[.pointer (some ⟨lb,0,none⟩)] w fun e w'=>e=.returned (.tuple #[.nilIface,.bool false])/\w=w':=by
 have HT:Hid (Calls ..):=zhi (t:=293) h;have c5:w.cell? ⟨lb,5,none⟩=some (.iface 293 (.agg #[])):=h.c5;have ha:=zajz;clear h;go_enter func300,ntmps300;go_wp2_with fail
 refine Calls.mono HT.out ?_;rintro e w1⟨rfl,rfl⟩;go_wp2;refine bodyPost_ret (results_tmp2 rfl _ _ _) rfl ?_;exact⟨rfl,rfl⟩
theorem zdj{ub:Nat}(h:LnB w lb nm l s x q (uwV ub)):Calls prog 300 #[.pointer (some ⟨lb,0,none⟩)] w fun e w'=>e=.returned (.tuple #[.iface 421 (.pointer (some ⟨ub,0,none⟩)),.bool true])/\w=w':=by
 have HT:Hid (Calls ..):=zhi (t:=421) h;have c5:w.cell? ⟨lb,5,none⟩=some (.iface 421 (.pointer (some ⟨ub,0,none⟩))):=h.c5;have ha:=zaka ub;clear h;go_enter func300,ntmps300;go_wp2_with fail
 refine Calls.mono HT.out ?_;rintro e w1⟨rfl,rfl⟩;go_wp2;refine bodyPost_ret (results_tmp2 rfl _ _ _) rfl ?_;exact⟨rfl,rfl⟩
def zcu(st:Option Hl):Int:=match st with|none=>0|some h=>h.n
def zbb(st:Option Hl):Bool:=match st with|none=>false|some h=>decide (h.l=[]/\h.out=0)
theorem zcb(h:LnM w lb nm l s x q st S):Calls prog 93 #[.pointer (some ⟨lb,0,none⟩)] w fun e w'=>e=.returned (.int .i64 (zcu st))/\Fr [] w w':=by
 have HT:Hid (Calls ..):=zdc h;cases st with
 |none=>
  have c5:w.cell? ⟨lb,5,none⟩=some (.iface 293 (.agg #[])):=LnB.c5 h;have m1:=zxp;clear h;go_enter func93,ntmps93;go_wp2_with fail
  refine Calls.mono HT.out ?_;rintro e w1⟨rfl,rfl⟩;go_wp2_with fail
  refine Calls.mono (zsn _) ?_;rintro e w2⟨rfl,hF⟩;go_wp2;go_ret;exact⟨rfl,hF⟩
 |some hl=>
  obtain⟨ub,ao,N,cp,hb,hu,_⟩:=h;have c5:w.cell? ⟨lb,5,none⟩=some (.iface 421 (.pointer (some ⟨ub,0,none⟩))):=hb.c5;have m1:=zin ub;have HH:Hid (Calls ..):=zgj hu;clear hb hu;go_enter func93,ntmps93;go_wp2_with fail
  refine Calls.mono HT.out ?_;rintro e w1⟨rfl,rfl⟩;go_wp2_with fail
  refine Calls.mono HH.out ?_;rintro e w2⟨rfl,rfl⟩;go_wp2;go_ret;exact⟨rfl,Fr.refl _ _⟩
theorem zdd(h:LnM w lb nm l s x q st S):Calls prog 293 #[.pointer (some ⟨lb,0,none⟩)] w fun e w'=>e=.returned (.bool (zbb st))/\Fr [] w w':=by
 have HT:Hid (Calls ..):=zdc h;cases st with
 |none=>
  have c5:w.cell? ⟨lb,5,none⟩=some (.iface 293 (.agg #[])):=LnB.c5 h;have m1:=zxq;clear h;go_enter func293,ntmps293;go_wp2_with fail
  refine Calls.mono HT.out ?_;rintro e w1⟨rfl,rfl⟩;go_wp2_with fail
  refine Calls.mono (zso _) ?_;rintro e w2⟨rfl,hF⟩;go_wp2;go_ret;exact⟨rfl,hF⟩
 |some hl=>
  obtain⟨ub,ao,N,cp,hb,hu,_⟩:=h;have c5:w.cell? ⟨lb,5,none⟩=some (.iface 421 (.pointer (some ⟨ub,0,none⟩))):=hb.c5;have m1:=znj ub;have HH:Hid (Calls ..):=zgk hu (zbb (some hl)) (by simp[zbb]);clear hb hu;go_enter func293,ntmps293;go_wp2_with fail
  refine Calls.mono HT.out ?_;rintro e w1⟨rfl,rfl⟩;go_wp2_with fail
  refine Calls.mono HH.out ?_;rintro e w2⟨rfl,rfl⟩;go_wp2;go_ret;exact⟨rfl,Fr.refl _ _⟩
end
structure Rq where
 k:Int
 f:Int
 n:Int
 x:Wt
def Rq.v(r:Rq):Value:=.agg #[.int .u8 r.k,.int .i64 r.f,.int .i64 r.n,.string r.x.key,.string r.x.val,.bool r.x.drop,.string ⟨#[]⟩,.string ⟨#[]⟩,.slice none 0 0]
def Rq.zero:Rq:=⟨0,0,0,Wt.zero⟩
def zfw(c:Cf):Option Hl->Int
 |some ⟨_,y::_,_⟩=>(c.shard y.key).1
 |_=>0
def zfx(nm:Int):Option Hl->Rq
 |some ⟨n,y::_,_⟩=>⟨1,nm,n,y⟩
 |_=>Rq.zero
def zfy:Option Hl->Bool
 |some ⟨_,_::_,_⟩=>true
 |_=>false
theorem zke{fn:Func}{t p u:Tmp}{ty:TypeId}(h:fn.results= #[.tmp t,.cell p ty,.tmp u])(tmps:Array Value)(P:Program)(w:World) :
  (results fn tmps).run P w =
   ((asAddr (tmps.getD p undef)).run P w).andThen fun a w₁=>((loadVar ty a).run P w₁).andThen fun v w₂=> .ok (.tuple #[tmps.getD t undef,v,tmps.getD u undef]) w₂:=by
 simp only[results,h];simp[Sem.run_bind,Result.andThen]
theorem zfz{fn:Func}{t p u:Tmp}{ty:TypeId}(h:fn.results= #[.tmp t,.cell p ty,.tmp u])(tmps:Array Value)(P:Program)(w:World)(g:Nat)(v:Value)(hp:tmps.getD p undef=.pointer (some ⟨g,0,none⟩))(hld:(loadVar ty ⟨g,0,none⟩).run P w=.ok v w) :
  (results fn tmps).run P w=.ok (.tuple #[tmps.getD t undef,v,tmps.getD u undef]) w:=by
 rw[zke h,hp];simp[asAddr,hld]
def zao(W:World)(b:Nat)(v0 v1 v2 v3 v4 v5 v6 v7 v8:Value):World:=(((((((((W.setCell ⟨b,0,none⟩ v0).setCell ⟨b,1,none⟩ v1).setCell ⟨b,2,none⟩ v2).setCell ⟨b,3,none⟩ v3).setCell ⟨b,4,none⟩ v4).setCell ⟨b,5,none⟩ v5).setCell ⟨b,6,none⟩ v6).setCell ⟨b,7,none⟩ v7).setCell ⟨b,8,none⟩ v8)
theorem Fr.set1{W V:World}{b:Nat}(h:Fr [b] W V)(j:Nat)(v:Value):Fr [b] W (V.setCell ⟨b,j,none⟩ v):=h.then (Fr.set _ _ _ (by simp))
theorem zabg(W:World)(b:Nat)(v0 v1 v2 v3 v4 v5 v6 v7 v8:Value):Fr [b] W (zao W b v0 v1 v2 v3 v4 v5 v6 v7 v8):=(Fr.set1 (Fr.set1 (Fr.set1 (Fr.set1 (Fr.set1 (Fr.set1 (Fr.set1 (Fr.set1 (Fr.set1 (Fr.refl [b] W) 0 v0) 1 v1) 2 v2) 3 v3) 4 v4) 5 v5) 6 v6) 7 v7) 8 v8)
theorem zcw{W:World}{b:Nat}{t:TypeId}{u0 u1 u2 u3 u4 u5 u6 u7 u8:Value}(v0 v1 v2 v3 v4 v5 v6 v7 v8:Value)(h:W.heap[b]? = some (.cells #[u0,u1,u2,u3,u4,u5,u6,u7,u8] t (0,0))):(zao W b v0 v1 v2 v3 v4 v5 v6 v7 v8).heap[b]? = some (.cells #[v0,v1,v2,v3,v4,v5,v6,v7,v8] t (0,0)):=by
 unfold zao;have h0:(W.setCell ⟨b,0,none⟩ v0).heap[b]? = some (.cells #[v0,u1,u2,u3,u4,u5,u6,u7,u8] t (0,0)):=by rw[zaa v0 h];rfl
 have h1:((W.setCell ⟨b,0,none⟩ v0).setCell ⟨b,1,none⟩ v1).heap[b]? = some (.cells #[v0,v1,u2,u3,u4,u5,u6,u7,u8] t (0,0)):=by rw[zaa v1 h0];rfl
 have h2:(((W.setCell ⟨b,0,none⟩ v0).setCell ⟨b,1,none⟩ v1).setCell ⟨b,2,none⟩ v2).heap[b]? = some (.cells #[v0,v1,v2,u3,u4,u5,u6,u7,u8] t (0,0)):=by rw[zaa v2 h1];rfl
 have h3:((((W.setCell ⟨b,0,none⟩ v0).setCell ⟨b,1,none⟩ v1).setCell ⟨b,2,none⟩ v2).setCell ⟨b,3,none⟩ v3).heap[b]? = some (.cells #[v0,v1,v2,v3,u4,u5,u6,u7,u8] t (0,0)):=by rw[zaa v3 h2];rfl
 have h4:(((((W.setCell ⟨b,0,none⟩ v0).setCell ⟨b,1,none⟩ v1).setCell ⟨b,2,none⟩ v2).setCell ⟨b,3,none⟩ v3).setCell ⟨b,4,none⟩ v4).heap[b]? = some (.cells #[v0,v1,v2,v3,v4,u5,u6,u7,u8] t (0,0)):=by rw[zaa v4 h3];rfl
 have h5:((((((W.setCell ⟨b,0,none⟩ v0).setCell ⟨b,1,none⟩ v1).setCell ⟨b,2,none⟩ v2).setCell ⟨b,3,none⟩ v3).setCell ⟨b,4,none⟩ v4).setCell ⟨b,5,none⟩ v5).heap[b]? = some (.cells #[v0,v1,v2,v3,v4,v5,u6,u7,u8] t (0,0)):=by rw[zaa v5 h4];rfl
 have h6:(((((((W.setCell ⟨b,0,none⟩ v0).setCell ⟨b,1,none⟩ v1).setCell ⟨b,2,none⟩ v2).setCell ⟨b,3,none⟩ v3).setCell ⟨b,4,none⟩ v4).setCell ⟨b,5,none⟩ v5).setCell ⟨b,6,none⟩ v6).heap[b]? = some (.cells #[v0,v1,v2,v3,v4,v5,v6,u7,u8] t (0,0)):=by rw[zaa v6 h5];rfl
 have h7:((((((((W.setCell ⟨b,0,none⟩ v0).setCell ⟨b,1,none⟩ v1).setCell ⟨b,2,none⟩ v2).setCell ⟨b,3,none⟩ v3).setCell ⟨b,4,none⟩ v4).setCell ⟨b,5,none⟩ v5).setCell ⟨b,6,none⟩ v6).setCell ⟨b,7,none⟩ v7).heap[b]? = some (.cells #[v0,v1,v2,v3,v4,v5,v6,v7,u8] t (0,0)):=by rw[zaa v7 h6];rfl
 have h8:(((((((((W.setCell ⟨b,0,none⟩ v0).setCell ⟨b,1,none⟩ v1).setCell ⟨b,2,none⟩ v2).setCell ⟨b,3,none⟩ v3).setCell ⟨b,4,none⟩ v4).setCell ⟨b,5,none⟩ v5).setCell ⟨b,6,none⟩ v6).setCell ⟨b,7,none⟩ v7).setCell ⟨b,8,none⟩ v8).heap[b]? = some (.cells #[v0,v1,v2,v3,v4,v5,v6,v7,v8] t (0,0)):=by rw[zaa v8 h7];rfl
 exact h8
theorem zcl(w:World)(b:Nat):w.drew.heap[b]? = w.heap[b]? :=rfl
theorem zgu{S:List Nat}{w w':World}(h:Fr S w w'):Fr S w w'.drew:=h.then (Fr.drew _ _)
theorem zaic(k f n:Int)(a b c d:ByteArray)(e:Bool):(#[Value.int .u8 k,.int .i64 f,.int .i64 n,.string a,.string b,.bool e,.string c,.string d,.slice none 0 0]:Array Value).all (·.oneCell')=true:=by simp[Value.oneCell']
theorem zok(ub:Nat)(w:World):(callFunc 475 #[.pointer (some ⟨ub,0,none⟩)]).run prog w=.ok (.enter 475 #[.pointer (some ⟨ub,0,none⟩)]) w:=by kernel_rfl
theorem zsu{w:World}{ops:Array Oper}{o:Oper}{a:Act}{K:Act->World->Prop}{Q:Exit->Act->World->Prop}{E:Prop}(hgd:o.guard=none)(recv:Operand)(name:String)(ho:o.op=.call {callee:=.invoke recv name,args:=#[],argTypes:=#[]})(t:TypeId)(v:Value)(hr:a.eval recv=.iface t v)(f:FuncId)(r:Value)(hm:(method 662 t v name).run prog w=.ok (f,r) w)(hf:(callFunc f #[r]).run prog w=.ok (.enter f #[r]) w)(val:Value)(hC:Calls prog f #[r] w fun e w'=>e=.returned val/\w=w')(h:K (a.put o.dst val) w):if Region.wanted o (yielded ops a.tmps)=true then Oper.wp prog o a w K Q else E:=by
 have hw:Region.wanted o (yielded ops a.tmps)=true:=by simp[Region.wanted,hgd]
 rw[if_pos hw];have hm':(method (prog.types.size+Made.depth) t v name).run prog w=.ok (f,r) w:=hm;have hm2:(method (562+Made.depth) t v name).run prog w=.ok (f,r) w:=hm;have e:(execOp a.eval o).run prog w=.ok (.enter f #[r]) w:=by
  simp[execOp,ho,resolve,invoke,callMethod,hr,hm',hm2,hf]
 unfold Oper.wp;rw[e,Oper.upon_enter];refine hC.mono ?_;rintro e w'⟨rfl,rfl⟩;exact h
section
variable{w:World}{lb:Nat}{nm l s x q:Int}{v:Value}{st:Option Hl}{S:List Nat}
theorem zvo(h:LnB w lb nm l s x q noV):Calls prog 290 #[.pointer (some ⟨lb,0,none⟩)] w fun e w'=>e=.returned (.tuple #[.int .i64 0,Rq.zero.v,.bool false])/\Fr [] w w':=by
 have HT:Hid (Calls ..):=zdi (h.keep (Fr.alloc [] w (.cells #[.int .u8 0,.int .i64 0,.int .i64 0,.string ⟨#[]⟩,.string ⟨#[]⟩,.bool false,.string ⟨#[]⟩,.string ⟨#[]⟩,.slice none 0 0] 338)) (by simp));clear h;go_enter func290,ntmps290;go_wp2_with fail
 refine Calls.mono HT.out ?_;rintro e w1⟨rfl,rfl⟩;go_wp2_with fail
 refine bodyPost_ret (v:=.tuple #[.int .i64 0,Rq.zero.v,.bool false]) (by rw[zke rfl];go_simp;rfl) rfl ⟨rfl,?_⟩;exact Fr.alloc _ _ _
theorem zxw{hl:Hl}(h:LnM w lb nm l s x q (some hl) S)(h0:hl.l=[]):Calls prog 290 #[.pointer (some ⟨lb,0,none⟩)] w fun e w'=>e=.returned (.tuple #[.int .i64 0,Rq.zero.v,.bool false])/\Fr [] w w':=by
 have hF0:=Fr.alloc [] w (.cells #[.int .u8 0,.int .i64 0,.int .i64 0,.string ⟨#[]⟩,.string ⟨#[]⟩,.bool false,.string ⟨#[]⟩,.string ⟨#[]⟩,.slice none 0 0] 338);have hrow0:=heap_alloc_new w (.cells #[.int .u8 0,.int .i64 0,.int .i64 0,.string ⟨#[]⟩,.string ⟨#[]⟩,.bool false,.string ⟨#[]⟩,.string ⟨#[]⟩,.slice none 0 0] 338);have h1:=h.kept _ hF0;obtain⟨ub,ao,N,cp,hb,hu,_⟩:=h1;rw[h0]at hu
 have HT:Hid (Calls ..):=zdj hb;have HN:Hid (Calls prog 476 #[.pointer (some ⟨ub,0,none⟩)] (w.alloc (.cells #[.int .u8 0,.int .i64 0,.int .i64 0,.string ⟨#[]⟩,.string ⟨#[]⟩,.bool false,.string ⟨#[]⟩,.string ⟨#[]⟩,.slice none 0 0] 338)) fun e w'=>e=.returned (.tuple #[.agg #[.string ⟨#[]⟩,.string ⟨#[]⟩,.bool false],.bool false])/\Fr [] (w.alloc (.cells #[.int .u8 0,.int .i64 0,.int .i64 0,.string ⟨#[]⟩,.string ⟨#[]⟩,.bool false,.string ⟨#[]⟩,.string ⟨#[]⟩,.slice none 0 0] 338)) w'):=zle hu;have m1:=zqa ub;clear h hb hu h0;go_enter func290,ntmps290;go_wp2_with fail
 refine Calls.mono HT.out ?_;rintro e w1⟨rfl,rfl⟩;go_wp2_with fail
 refine Calls.mono HN.out ?_;rintro e w2⟨rfl,hF2⟩;have hrow2:=hF2.keep hrow0 (by simp);have HF2:Hid (Fr [] w w2):=hF0.then hF2;have hlt2:=lt_of_block hrow2;have hrow3:=(Fr.alloc [] w2 (.cells #[.string ⟨#[]⟩,.string ⟨#[]⟩,.bool false] 91)).keep hrow2 (by simp);have hself:=setRow_self _ _ _ _ _ hrow3;have hld:=run_loadVar_row (P:=prog) _ w.heap.size _ 338 _ _ (.struct (prog.fieldsOf 338)) hrow3 (by kernel_rfl) rfl (by kernel_rfl);have HF3:Hid (Fr [] w (w2.alloc (.cells #[.string ⟨#[]⟩,.string ⟨#[]⟩,.bool false] 91))):=HF2.out.then (Fr.alloc _ _ _);clear hF0 hrow0 hF2 hrow2;go_upto_region 6 with fail
 go_wp2_with (first
  |(refine wpList_store_row rfl 338 _ _ rfl w.heap.size #[.int .u8 0,.int .i64 0,.int .i64 0,.string ⟨#[]⟩,.string ⟨#[]⟩,.bool false,.string ⟨#[]⟩,.string ⟨#[]⟩,.slice none 0 0] rfl rfl _ _ hrow3 (by kernel_rfl) rfl (zaic _ _ _ _ _ _ _ _) ?_;rw[hself];go_frame)
  |fail)
 refine bodyPost_ret (zfz rfl _ _ _ _ _ rfl hld) rfl ?_;exact⟨rfl,HF3.out⟩
theorem zvp{n:Int}{y:Wt}{r:List Wt}{o:Nat}(h:LnM w lb nm l s x q (some ⟨n,y::r,o⟩) S):Calls prog 290 #[.pointer (some ⟨lb,0,none⟩)] w fun e w'=>e=.returned (.tuple #[.int .i64 (Cf.shard ⟨l,s,x,q⟩ y.key).1,(Rq.mk 1 nm n y).v,.bool true])/\Fr [] w w':=by
 have hF0:=Fr.alloc [] w (.cells #[.int .u8 0,.int .i64 0,.int .i64 0,.string ⟨#[]⟩,.string ⟨#[]⟩,.bool false,.string ⟨#[]⟩,.string ⟨#[]⟩,.slice none 0 0] 338);have hrow0:=heap_alloc_new w (.cells #[.int .u8 0,.int .i64 0,.int .i64 0,.string ⟨#[]⟩,.string ⟨#[]⟩,.bool false,.string ⟨#[]⟩,.string ⟨#[]⟩,.slice none 0 0] 338);have h1:=h.kept _ hF0;have HM:Hid (∀W,Fr [] w W->LnM W lb nm l s x q (some ⟨n,y::r,o⟩) S):=h.kept;obtain⟨ub,ao,N,cp,hb,hu,_⟩:=h1;have hks:y.key.size<=9223372036854775807:=by have:=(hu.rs.each y (by simp)).1;omega
 have HT:Hid (Calls ..):=zdj hb;have HN:Hid (Calls ..):=zle hu;have m1:=zqa ub;have m2:=zin ub;have HB:Hid (∀W,Fr [] (w.alloc (.cells #[.int .u8 0,.int .i64 0,.int .i64 0,.string ⟨#[]⟩,.string ⟨#[]⟩,.bool false,.string ⟨#[]⟩,.string ⟨#[]⟩,.slice none 0 0] 338)) W->LnB W lb nm l s x q (uwV ub)/\(Calls prog 475 #[.pointer (some ⟨ub,0,none⟩)] W fun e w'=>e=.returned (.int .i64 n)/\W=w')):=fun W hf=>⟨hb.keep hf (by simp),zgj (hu.keep hf (by simp) (by simp))⟩;have HS:∀W,Calls _ _ _ _ _:=fun W=>zxo l s x q y.key W hks;obtain⟨key,val,drop⟩:=y;obtain⟨sh,HSh⟩:∃sh,Hid (Cf.shard ⟨l,s,x,q⟩ key=sh):=⟨_,rfl⟩;obtain⟨s1,s2⟩:=sh;simp only[HSh.out]at HS ⊢;simp only[nxW,nxB,List.headD_cons,List.isEmpty_cons,Bool.not_false]at HN;clear h hb hu HSh;go_enter func290,ntmps290;go_wp2_with fail
 refine Calls.mono HT.out ?_;rintro e w1⟨rfl,rfl⟩;go_wp2_with fail
 refine Calls.mono HN.out ?_;rintro e w2⟨rfl,hF2⟩;have fA:Fr [] w2 (w2.alloc (.cells #[.string key,.string val,.bool drop] 91)):=Fr.alloc _ _ _;have hF3:=hF2.then fA;have hrowW:=heap_alloc_new w2 (.cells #[.string key,.string val,.bool drop] 91);obtain⟨w3,HW3⟩:∃w3,Hid (w2.alloc (.cells #[.string key,.string val,.bool drop] 91)=w3):=⟨_,rfl⟩;obtain⟨B,HBb⟩:∃B,Hid (w2.heap.size=B):=⟨_,rfl⟩;rw[HW3.out]at hF3 hrowW
 rw[HBb.out]at hrowW
 have hrow3:=hF3.keep hrow0 (by simp);obtain⟨RB,HRb⟩:∃RB,Hid (w.heap.size=RB):=⟨_,rfl⟩;rw[HRb.out]at hrow3
 have HG3:Hid (Fr [] w w3):=hF0.then hF3;have HB3:Hid (∀W,Fr [] w3 W->LnB W lb nm l s x q (uwV ub)/\(Calls prog 475 #[.pointer (some ⟨ub,0,none⟩)] W fun e w'=>e=.returned (.int .i64 n)/\W=w')):=fun W hf=>HB.out W (hF3.then hf);have HRow:Hid (∀W,Fr [] w3 W->W.heap[RB]? = some (.cells #[.int .u8 0,.int .i64 0,.int .i64 0,.string ⟨#[]⟩,.string ⟨#[]⟩,.bool false,.string ⟨#[]⟩,.string ⟨#[]⟩,.slice none 0 0] 338 (0,0))):=fun W hf=>hf.keep hrow3 (by simp);have HRw:Hid (∀W,Fr [] w3 W->W.cell? ⟨B,0,none⟩=some (.string key)/\W.cell? ⟨B,1,none⟩=some (.string val)/\W.cell? ⟨B,2,none⟩=some (.bool drop)):=fun W hf=>by
  have:=hf.keep hrowW (by simp);exact⟨by rw[crw this];rfl,by rw[crw this];rfl,by rw[crw this];rfl⟩
 have HRBw:Hid (w.heap.size<=RB):=by show _<=_;rw[HRb.out];omega
 have HBw:Hid (B<w3.heap.size):=by show _<_;rw[<-HW3.out,<-HBb.out];simp
 have hlR:lb≠RB:=by have:=HM.out _ (Fr.refl _ _);have:=this.lt;rw[<-HRb.out];omega
 have hBR:B≠RB:=by have:=hF2.size;rw[<-HRb.out,<-HBb.out];simp at this;omega
 clear hF0 hrow0 hF2 hF3 fA hrowW hrow3 HB HT HN;go_upto_region 7 with fail
 rw[HW3.out,HBb.out,HRb.out];clear HW3 HBb HRb;have f1:∀y:Wd13 w3,y.W.cell? ⟨lb,1,none⟩=some (.int .i64 l):=fun y=>(HB3.out _ y.h).1.c1;have f2:∀y:Wd13 w3,y.W.cell? ⟨lb,2,none⟩=some (.int .i64 s):=fun y=>(HB3.out _ y.h).1.c2;have f3:∀y:Wd13 w3,y.W.cell? ⟨lb,3,none⟩=some (.int .i64 x):=fun y=>(HB3.out _ y.h).1.c3;have f4:∀y:Wd13 w3,y.W.cell? ⟨lb,4,none⟩=some (.int .i64 q):=fun y=>(HB3.out _ y.h).1.c4;have g0:∀y:Wd13 w3,y.W.cell? ⟨B,0,none⟩=some (.string key):=fun y=>(HRw.out _ y.h).1;refine zmk (w1:=w3) (by kernel_rfl) (by kernel_rfl) (Fr.refl _ _) ?_
 repeat (go_big_quiet_step (first
  |(go_at_call 198;with_reducible refine (HS _).mono ?_;exact fun e w3 hh=>⟨hh.1,⟨_,Fr.then (Wd13.h _) hh.2⟩,rfl⟩)))
 refine wpQuiet_nil ?_;rintro _⟨z,rfl⟩;clear f1 f2 f3 f4 g0 HS;obtain⟨wy,hy⟩:=z;simp only;have c0:wy.cell? ⟨lb,0,none⟩=some (.int .i64 nm):=(HB3.out _ hy).1.c0;obtain⟨b0,b1,b2⟩:=HRw.out _ hy;have c0':wy.drew.cell? ⟨lb,0,none⟩=some (.int .i64 nm):=c0;obtain⟨b0',b1',b2'⟩:wy.drew.cell? ⟨B,0,none⟩=some (.string key)/\wy.drew.cell? ⟨B,1,none⟩=some (.string val)/\wy.drew.cell? ⟨B,2,none⟩=some (.bool drop):=⟨b0,b1,b2⟩;have HRy:=(show Hid _ from HRow.out _ (hy.then (Fr.drew _ wy)));have HHy:=(show Hid _ from (HB3.out _ (hy.then (Fr.drew _ wy))).2);have HBl:Hid (B<wy.heap.size):=Nat.lt_of_lt_of_le HBw.out hy.size;have HRy0:=(show Hid _ from HRow.out _ hy);have zf:∀j,wy.drew.frozen? ⟨RB,j,none⟩=false:=fun j=>by simp[World.frozen?,HRy.out]
 have r0:wy.drew.cell? ⟨RB,0,none⟩=some (.int .u8 0):=by rw[crw HRy.out];rfl
 have r1:wy.drew.cell? ⟨RB,1,none⟩=some (.int .i64 0):=by rw[crw HRy.out];rfl
 have r2:wy.drew.cell? ⟨RB,2,none⟩=some (.int .i64 0):=by rw[crw HRy.out];rfl
 have r3:wy.drew.cell? ⟨RB,3,none⟩=some (.string ⟨#[]⟩):=by rw[crw HRy.out];rfl
 have r4:wy.drew.cell? ⟨RB,4,none⟩=some (.string ⟨#[]⟩):=by rw[crw HRy.out];rfl
 have r5:wy.drew.cell? ⟨RB,5,none⟩=some (.bool false):=by rw[crw HRy.out];rfl
 have r6:wy.drew.cell? ⟨RB,6,none⟩=some (.string ⟨#[]⟩):=by rw[crw HRy.out];rfl
 have r7:wy.drew.cell? ⟨RB,7,none⟩=some (.string ⟨#[]⟩):=by rw[crw HRy.out];rfl
 have r8:wy.drew.cell? ⟨RB,8,none⟩=some (.slice none 0 0):=by rw[crw HRy.out];rfl
 have zf0:∀j,wy.frozen? ⟨RB,j,none⟩=false:=fun j=>by simp[World.frozen?,HRy0.out]
 have q0:wy.cell? ⟨RB,0,none⟩=some (.int .u8 0):=by rw[crw HRy0.out];rfl
 have q1:wy.cell? ⟨RB,1,none⟩=some (.int .i64 0):=by rw[crw HRy0.out];rfl
 have q2:wy.cell? ⟨RB,2,none⟩=some (.int .i64 0):=by rw[crw HRy0.out];rfl
 have q3:wy.cell? ⟨RB,3,none⟩=some (.string ⟨#[]⟩):=by rw[crw HRy0.out];rfl
 have q4:wy.cell? ⟨RB,4,none⟩=some (.string ⟨#[]⟩):=by rw[crw HRy0.out];rfl
 have q5:wy.cell? ⟨RB,5,none⟩=some (.bool false):=by rw[crw HRy0.out];rfl
 have q6:wy.cell? ⟨RB,6,none⟩=some (.string ⟨#[]⟩):=by rw[crw HRy0.out];rfl
 have q7:wy.cell? ⟨RB,7,none⟩=some (.string ⟨#[]⟩):=by rw[crw HRy0.out];rfl
 have q8:wy.cell? ⟨RB,8,none⟩=some (.slice none 0 0):=by rw[crw HRy0.out];rfl
 have hlR':RB≠lb:=fun e=>hlR e.symm;have hBR':RB≠B:=fun e=>hBR e.symm;have f9:=zgu ((HG3.out.then hy).on (zabg wy RB (.int .u8 1) (.int .i64 nm) (.int .i64 n) (.string key) (.string val) (.bool drop) (.string ⟨#[]⟩) (.string ⟨#[]⟩) (.slice none 0 0)) (by intro k hk;simp at hk;have:=HRBw.out;omega));have r9:=(zcl _ _).trans (zcw (b:=RB) (.int .u8 1) (.int .i64 nm) (.int .i64 n) (.string key) (.string val) (.bool drop) (.string ⟨#[]⟩) (.string ⟨#[]⟩) (.slice none 0 0) HRy0.out);unfold zao at f9 r9;have HF9:Hid _:=f9;have HR9:Hid _:=r9;clear f9 r9;go_wp2_with fail
 go_region_held3 (fun W=>W.cell? ⟨lb,0,none⟩=some (.int .i64 nm)/\W.cell? ⟨B,0,none⟩=some (.string key)/\W.cell? ⟨B,1,none⟩=some (.string val)/\W.cell? ⟨B,2,none⟩=some (.bool drop)) (go_keep)
  (first
   |(refine zsu (w:=wy.drew) (by rfl) (.tmp 41) "towpath/lane.holds" (by rfl) 421 (.pointer (some ⟨ub,0,none⟩)) (by rfl) 475 (.pointer (some ⟨ub,0,none⟩)) (m2 _) (zok ub _) (.int .i64 n) HHy.out ?_))
 all_goals (
  have hld:=run_loadVar_row (P:=prog) _ RB _ 338 _ _ (.struct (prog.fieldsOf 338)) HR9.out (by kernel_rfl) rfl (by kernel_rfl);go_wp2_with fail
  refine bodyPost_ret (zfz rfl _ _ _ _ _ rfl hld) rfl ?_;exact⟨rfl,HF9.out⟩)
theorem zcx(h:LnM w lb nm l s x q st S):Calls prog 290 #[.pointer (some ⟨lb,0,none⟩)] w fun e w'=>e=.returned (.tuple #[.int .i64 (zfw ⟨l,s,x,q⟩ st),(zfx nm st).v,.bool (zfy st)])/\Fr [] w w':=by
 cases st with
 |none=>exact zvo h
 |some hl=>
  obtain⟨n,ws,o⟩:=hl;cases ws with
  |nil=>exact zxw h rfl
  |cons y r=>exact zvp h
end
section
variable{w:World}{lb:Nat}{nm l s x q:Int}{v:Value}{st:Option Hl}{S:List Nat}
theorem zxx(n:Int)(ao:Option Addr)(L cap:Nat)(ws:List Wt)(h:LnM w lb nm l s x q none S)(hT:TArg w n ao L cap ws)(hok:okT n ws):Calls prog 295 #[.pointer (some ⟨lb,0,none⟩),.agg #[.int .i64 n,.slice ao L cap]] w fun e w'=>∃S',e=.returned (.int .i64 0)/\LnM w' lb nm l s x q (some ⟨n,dd ws,0⟩) S'/\(∀k∈S',w.heap.size<=k/\k<w'.heap.size)/\Fr [lb] w w':=by
 have hF0:=Fr.alloc [] w (.cells #[.int .i64 n,.slice ao L cap] 108);have hrow0:(w.alloc (.cells #[.int .i64 n,.slice ao L cap] 108)).heap[w.heap.size]? = some (.cells #[.int .i64 n,.slice ao L cap] 108 (0,0)):=heap_alloc_new w _;have h1:=h.kept _ hF0;have HT:Hid (Calls ..):=zdc h1;have HD:Hid (Calls ..):=zdi h1;have HC:Hid (Calls ..):=zck n ao L cap 0 ws _ (hT.rs.keep hF0) hT.len hT.n0 hT.n1 (.inl ⟨hok,rfl⟩);have hlen:=hT.len;have HQ:Hid (∀W,Fr [] w W->Calls prog 304 #[.slice ao L cap] W fun e w'=>∃ro N rc,e=.returned (.slice ro N rc)/\WOw W w' ro N rc (dd ws)/\Fr [] W w'):=fun W hf=>zpx ao L cap ws W (hT.rs.keep hf) hT.len (by have:=hok.2.2.1;omega) (fun y hy=>(hok.2.2.2 y hy).2.1);have HK:Hid (∀W,Fr [] w W->LnB W lb nm l s x q noV):=fun W hf=>LnB.keep h hf (by simp);have hlb:=h.lt;have HX:Hid (∀W w4 ro N rc,Fr [] w W->w.heap.size<W.heap.size->WOw W w4 ro N rc (dd ws)->Fr [] W w4 ->
   w4.cell? ⟨lb,5,none⟩=some noV/\w4.frozen? ⟨lb,5,none⟩=false /\
   (w4.alloc (.cells #[.int .i64 n,.slice ro N rc,.int .i64 0] 424)).cell? ⟨lb,5,none⟩=some noV/\(w4.alloc (.cells #[.int .i64 n,.slice ro N rc,.int .i64 0] 424)).frozen? ⟨lb,5,none⟩=false /\
   LnM ((w4.alloc (.cells #[.int .i64 n,.slice ro N rc,.int .i64 0] 424)).setCell ⟨lb,5,none⟩ (.iface 421 (.pointer (some ⟨w4.heap.size,0,none⟩)))) lb nm l s x q (some ⟨n,dd ws,0⟩) (w4.heap.size::(ro.map (·.block)).toList) /\
   (∀k∈w4.heap.size::(ro.map (·.block)).toList,w.heap.size<=k/\k<((w4.alloc (.cells #[.int .i64 n,.slice ro N rc,.int .i64 0] 424)).setCell ⟨lb,5,none⟩ (.iface 421 (.pointer (some ⟨w4.heap.size,0,none⟩)))).heap.size)/\Fr [lb] w ((w4.alloc (.cells #[.int .i64 n,.slice ro N rc,.int .i64 0] 424)).setCell ⟨lb,5,none⟩ (.iface 421 (.pointer (some ⟨w4.heap.size,0,none⟩))))/\Fr [lb] W ((w4.alloc (.cells #[.int .i64 n,.slice ro N rc,.int .i64 0] 424)).setCell ⟨lb,5,none⟩ (.iface 421 (.pointer (some ⟨w4.heap.size,0,none⟩))))):=by
  intro W w4 ro N rc hf hsz hO hf4;have hG4:=hf.then hf4;have hb4:=HK.out _ hG4;have fA:Fr [] w4 (w4.alloc (.cells #[.int .i64 n,.slice ro N rc,.int .i64 0] 424)):=Fr.alloc _ _ _;have hb5:=HK.out _ (hG4.then fA);have fS:Fr [lb] (w4.alloc (.cells #[.int .i64 n,.slice ro N rc,.int .i64 0] 424)) ((w4.alloc (.cells #[.int .i64 n,.slice ro N rc,.int .i64 0] 424)).setCell ⟨lb,5,none⟩ (.iface 421 (.pointer (some ⟨w4.heap.size,0,none⟩)))):=Fr.set _ _ _ (by simp);have hrow:(w4.alloc (.cells #[.int .i64 n,.slice ro N rc,.int .i64 0] 424)).heap[w4.heap.size]? = some (.cells #[.int .i64 n,.slice ro N rc,.int .i64 0] 424 (0,0)):=heap_alloc_new w4 _;have hlb4:lb<w4.heap.size:=Nat.lt_of_lt_of_le hlb hG4.size;have hmem:∀y∈dd ws,y.key.size<=140737488355328/\y.val.size<=140737488355328:=fun y hy=>hT.rs.each y (zpv ws y hy);have hdl:(dd ws).length<=32:=by have:=zlb ws;have:=hok.2.2.1;omega
  have hrs4:WRs w4 ro (dd ws):=hO.rs (by omega) hmem;have hnew:=hO.new;have hW:=hf.size;have hblk:0<(dd ws).length->∀a,ro=some a->a.block<w4.heap.size:=by
   intro hp a ha;obtain⟨b,off,e,hb,_⟩:=hrs4.lies hp;rw[e]at ha
   cases ha;exact hb
  refine⟨hb4.c5,hb4.fz 5,hb5.c5,hb5.fz 5,⟨w4.heap.size,ro,N,rc,hb5.set _,⟨fS.keep hrow (by simp;omega),hO.len,hO.cap,(hrs4.keep fA).keepS fS ?_,?_,by simpa using by omega⟩,by omega,by simp,?_⟩,?_,?_,((hf4.then fA).mono (by simp)).then fS⟩
  .intro hp a ha;have:=hnew a ha;simp;omega
  .intro hp a ha;have:=hblk hp a ha;omega
  .intro hp a ha;have:=hnew a ha;refine⟨?_,by omega⟩;rw[ha];simp
  .intro k hk;simp only[List.mem_cons,Option.mem_toList,Option.map_eq_some_iff]at hk;have hs5:=fS.size;have hs6:(w4.alloc (.cells #[.int .i64 n,.slice ro N rc,.int .i64 0] 424)).heap.size=w4.heap.size+1:=by simp
   rw[hs6]at hs5
   rcases hk with rfl|⟨a,ha,rfl⟩
   .exact⟨hG4.size,by omega⟩
   have:=hO.old a ha;exact⟨Nat.le_trans hW (hnew a ha),by omega⟩
  exact ((hG4.then fA).mono (by simp)).then fS
 clear h h1 hok hlen hT;go_enter func295,ntmps295;go_wp2_with fail
 refine Calls.mono HT.out ?_;rintro e w1⟨rfl,rfl⟩;go_wp2_with fail
 refine Calls.mono HD.out ?_;rintro e w1⟨rfl,rfl⟩;go_wp2_with fail
 refine Calls.mono HC.out ?_;rintro e w1⟨rfl,hF1⟩;have hG1:Fr [] w w1:=hF0.then hF1;have hrow1:=hF1.keep hrow0 (by simp);have hs1:w.heap.size<w1.heap.size:=lt_of_block hrow1;have c0:w1.cell? ⟨w.heap.size,0,none⟩=some (.int .i64 n):=by rw[crw hrow1];rfl
 have c1:w1.cell? ⟨w.heap.size,1,none⟩=some (.slice ao L cap):=by rw[crw hrow1];rfl
 have HR:Hid (∀W,Fr [lb] w1 W->W.cell? ⟨w.heap.size,0,none⟩=some (.int .i64 n)/\W.cell? ⟨w.heap.size,1,none⟩=some (.slice ao L cap)):=fun W hf=>by
  have:=hf.keep hrow1 (by simp;omega);exact⟨by rw[crw this];rfl,by rw[crw this];rfl⟩
 clear hF1 hrow0 hrow1 hF0 HT HD HC;go_upto_region 9 with fail
 go_region_held3 (fun W=>W.cell? ⟨w.heap.size,0,none⟩=some (.int .i64 n)/\W.cell? ⟨w.heap.size,1,none⟩=some (.slice ao L cap)) (go_keep)
  (first
   |(go_at_call 304;with_reducible refine Calls.mono (HQ.out _ (by first|exact hG1.then (Fr.drew [] _)|exact hG1.then (Fr.drewN [] _ _)|exact hG1)) ?_;rintro e w4⟨ro,N,rc,rfl,hO4,hF4⟩;obtain⟨k0,k1,k2,k3,k4,k5,k6,k7⟩:=HX.out _ w4 ro N rc (by first|exact hG1.then (Fr.drew [] _)|exact hG1.then (Fr.drewN [] _ _)|exact hG1) (by first|exact hs1|simpa using hs1) hO4 hF4;obtain⟨j0,j1⟩:=HR.out w4 (by first|exact (Fr.drew _ _).then (hF4.mono (by simp))|exact (Fr.drewN _ _ _).then (hF4.mono (by simp))|exact hF4.mono (by simp));obtain⟨j2,j3⟩:=HR.out _ (by first|exact (Fr.drew _ _).then k7|exact (Fr.drewN _ _ _).then k7|exact k7)))
 all_goals (
  go_wp2;go_ret;exact⟨_,rfl,k4,k5,k6⟩)
end
def zakl:Option Hl->Int
 |some ⟨_,_::_,_⟩=>0
 |_=>9
def zadp:Option Hl->Option Hl
 |some ⟨n,_::r,o⟩=>some ⟨n,r,o+1⟩
 |s=>s
def ackE:Option Hl->Int
 |some ⟨_,_,_+1⟩=>0
 |_=>9
def ackS:Option Hl->Option Hl
 |some ⟨n,r,o+1⟩=>some ⟨n,r,o⟩
 |s=>s
def zjp(st:Option Hl):Int:=if zbb st=true then zcu st else 0
def zjq(st:Option Hl):Int:=match st with|none=>9|some h=>if zbb (some h)=true then 0 else 10
def zjr(st:Option Hl):Option Hl:=if zbb st=true then none else st
section
variable{w:World}{lb:Nat}{nm l s x q:Int}{v:Value}{st:Option Hl}{S:List Nat}
theorem zxy(h:LnM w lb nm l s x q st S):Calls prog 297 #[.pointer (some ⟨lb,0,none⟩)] w fun e w'=>e=.returned (.int .i64 (zakl st))/\LnM w' lb nm l s x q (zadp st) S/\Fr (lb::S) w w':=by
 have HT:Hid (Calls ..):=zdc h;cases st with
 |none=>
  have HM:Hid (LnM w lb nm l s x q none S):=h;have HD:Hid (Calls ..):=zdi h;clear h;go_enter func297,ntmps297;go_wp2_with fail
  refine Calls.mono HT.out ?_;rintro e w1⟨rfl,rfl⟩;go_wp2_with fail
  refine Calls.mono HD.out ?_;rintro e w1⟨rfl,rfl⟩;go_wp2;go_ret;exact⟨rfl,HM.out,Fr.refl _ _⟩
 |some hl=>
  have HM:Hid (LnM w lb nm l s x q (some hl) S):=h;obtain⟨ub,ao,N,cp,hb,hu,hne,hS,hr⟩:=h;have HD:Hid (Calls ..):=zdj hb;have m1:=zaav ub;obtain⟨n,ws,o⟩:=hl;cases ws with
  |nil=>
   have HH:Hid (Calls ..):=zsm hu;clear hb hu hr;go_enter func297,ntmps297;go_wp2_with fail
   refine Calls.mono HT.out ?_;rintro e w1⟨rfl,rfl⟩;go_wp2_with fail
   refine Calls.mono HD.out ?_;rintro e w1⟨rfl,rfl⟩;go_wp2_with fail
   refine Calls.mono HH.out ?_;rintro e w1⟨rfl,rfl⟩;go_wp2;go_ret;exact⟨rfl,HM.out,Fr.refl _ _⟩
  |cons y r=>
   have HH:Hid (Calls ..):=zva hu;have HX:Hid (∀w' ao' N' cp',UwM w' ub n ao' N' cp' (o+1) r->Fr [ub] w w'->zpa ao ao'->LnM w' lb nm l s x q (zadp (some ⟨n,y::r,o⟩)) S/\Fr (lb::S) w w'):=by
    intro w' ao' N' cp' hu' hf hsb;refine⟨⟨ub,ao',N',cp',hb.keep hf (by simpa using hne),hu',hne,hS,fun hp a ha=> ?_⟩,hf.mono (fun k hk _=>by simp at hk;rw[hk];exact List.mem_cons_of_mem _ hS)⟩;obtain⟨a0,e0,e1⟩:=hsb a ha;have:=hr (by simp) a0 e0;rw[e1];exact this
   clear hb hu hr;go_enter func297,ntmps297;go_wp2_with fail
   refine Calls.mono HT.out ?_;rintro e w1⟨rfl,rfl⟩;go_wp2_with fail
   refine Calls.mono HD.out ?_;rintro e w1⟨rfl,rfl⟩;go_wp2_with fail
   refine Calls.mono HH.out ?_;rintro e w1⟨rfl,ao',N',cp',hu',hf,hsb⟩;have HR:Hid (_/\_):=HX.out w1 ao' N' cp' hu' hf hsb;clear hu' hf hsb;go_wp2;go_ret;exact⟨rfl,HR.out.1,HR.out.2⟩
theorem zvq(h:LnM w lb nm l s x q st S):Calls prog 325 #[.pointer (some ⟨lb,0,none⟩)] w fun e w'=>e=.returned (.int .i64 (ackE st))/\LnM w' lb nm l s x q (ackS st) S/\Fr (lb::S) w w':=by
 have HT:Hid (Calls ..):=zdc h;cases st with
 |none=>
  have HM:Hid (LnM w lb nm l s x q none S):=h;have HD:Hid (Calls ..):=zdi h;clear h;go_enter func325,ntmps325;go_wp2_with fail
  refine Calls.mono HT.out ?_;rintro e w1⟨rfl,rfl⟩;go_wp2_with fail
  refine Calls.mono HD.out ?_;rintro e w1⟨rfl,rfl⟩;go_wp2;go_ret;exact⟨rfl,HM.out,Fr.refl _ _⟩
 |some hl=>
  have HM:Hid (LnM w lb nm l s x q (some hl) S):=h;obtain⟨ub,ao,N,cp,hb,hu,hne,hS,hr⟩:=h;have HD:Hid (Calls ..):=zdj hb;have m1:=zaen ub;obtain⟨n,ws,o⟩:=hl;cases o with
  |zero=>
   have HH:Hid (Calls ..):=zvb hu;clear hb hu hr;go_enter func325,ntmps325;go_wp2_with fail
   refine Calls.mono HT.out ?_;rintro e w1⟨rfl,rfl⟩;go_wp2_with fail
   refine Calls.mono HD.out ?_;rintro e w1⟨rfl,rfl⟩;go_wp2_with fail
   refine Calls.mono HH.out ?_;rintro e w1⟨rfl,rfl⟩;go_wp2;go_ret;exact⟨rfl,HM.out,Fr.refl _ _⟩
  |succ o=>
   have HH:Hid (Calls ..):=zxl hu;have HX:Hid (∀w',UwM w' ub n ao N cp o ws->Fr [ub] w w'->LnM w' lb nm l s x q (ackS (some ⟨n,ws,o+1⟩)) S/\Fr (lb::S) w w'):=by
    intro w' hu' hf;exact⟨⟨ub,ao,N,cp,hb.keep hf (by simpa using hne),hu',hne,hS,hr⟩,hf.mono (fun k hk _=>by simp at hk;rw[hk];exact List.mem_cons_of_mem _ hS)⟩
   clear hb hu hr;go_enter func325,ntmps325;go_wp2_with fail
   refine Calls.mono HT.out ?_;rintro e w1⟨rfl,rfl⟩;go_wp2_with fail
   refine Calls.mono HD.out ?_;rintro e w1⟨rfl,rfl⟩;go_wp2_with fail
   refine Calls.mono HH.out ?_;rintro e w1⟨rfl,hu',hf⟩;have HR:Hid (_/\_):=HX.out w1 hu' hf;clear hu' hf;go_wp2;go_ret;exact⟨rfl,HR.out.1,HR.out.2⟩
theorem zxz(h:LnM w lb nm l s x q st S):Calls prog 298 #[.pointer (some ⟨lb,0,none⟩)] w fun e w'=>e=.returned (.tuple #[.int .i64 (zjp st),.int .i64 (zjq st)])/\LnM w' lb nm l s x q (zjr st) S/\Fr (lb::S) w w':=by
 have HT:Hid (Calls ..):=zdc h;cases st with
 |none=>
  have HM:Hid (LnM w lb nm l s x q none S):=h;have HD:Hid (Calls ..):=zdi h;clear h;go_enter func298,ntmps298;go_wp2_with fail
  refine Calls.mono HT.out ?_;rintro e w1⟨rfl,rfl⟩;go_wp2_with fail
  refine Calls.mono HD.out ?_;rintro e w1⟨rfl,rfl⟩;go_wp2;refine bodyPost_ret (results_tmp2 rfl _ _ _) rfl ?_;exact⟨rfl,HM.out,Fr.refl _ _⟩
 |some hl=>
  have HM:Hid (LnM w lb nm l s x q (some hl) S):=h;obtain⟨ub,ao,N,cp,hb,hu,hne,hS,hr⟩:=h;have HD:Hid (Calls ..):=zdj hb;have m1:=znj ub;cases hR:zbb (some hl) with
  |false=>
   have E1:zjp (some hl)=0:=by simp[zjp,hR]
   have E2:zjq (some hl)=10:=by simp[zjq,hR]
   have E3:zjr (some hl)=some hl:=by simp[zjr,hR]
   rw[E1,E2,E3];have HH:Hid (Calls ..):=zgk hu false (by rw[<-hR];simp[zbb]);clear hb hu hr E1 E2 E3 hR;go_enter func298,ntmps298;go_wp2_with fail
   refine Calls.mono HT.out ?_;rintro e w1⟨rfl,rfl⟩;go_wp2_with fail
   refine Calls.mono HD.out ?_;rintro e w1⟨rfl,rfl⟩;go_wp2_with fail
   refine Calls.mono HH.out ?_;rintro e w1⟨rfl,rfl⟩;go_wp2;refine bodyPost_ret (results_tmp2 rfl _ _ _) rfl ?_;exact⟨rfl,HM.out,Fr.refl _ _⟩
  |true=>
   have E1:zjp (some hl)=hl.n:=by simp[zjp,hR,zcu]
   have E2:zjq (some hl)=0:=by simp[zjq,hR]
   have E3:zjr (some hl)=none:=by simp[zjr,hR]
   rw[E1,E2,E3];have HH:Hid (Calls ..):=zgk hu true (by simpa[zbb]using hR);have m2:=zin ub;have c5:=hb.c5;have z5:=hb.fz 5;have fS:Fr [lb] w (w.setCell ⟨lb,5,none⟩ (.iface 293 (.agg #[]))):=Fr.set _ _ _ (by simp);have HB:Hid (LnM (w.setCell ⟨lb,5,none⟩ (.iface 293 (.agg #[]))) lb nm l s x q none S):=hb.set noV;have hrb:0<hl.l.length->∀a,ao=some a->a.block∉[lb]:=fun hp a ha=>by simpa using (hr hp a ha).2
   have HG:Hid (Calls ..):=zgj (hu.keep fS (by simpa using hne.symm) hrb);have HF:Hid (Fr (lb::S) w (w.setCell ⟨lb,5,none⟩ (.iface 293 (.agg #[])))):=Fr.set _ _ _ (by simp);clear hb hu hr E1 E2 E3 hR hrb fS;go_enter func298,ntmps298;go_wp2_with fail
   refine Calls.mono HT.out ?_;rintro e w1⟨rfl,rfl⟩;go_wp2_with fail
   refine Calls.mono HD.out ?_;rintro e w1⟨rfl,rfl⟩;go_wp2_with fail
   refine Calls.mono HH.out ?_;rintro e w1⟨rfl,rfl⟩;go_wp2_with fail
   refine Calls.mono HG.out ?_;rintro e w1⟨rfl,rfl⟩;go_wp2;refine bodyPost_ret (results_tmp2 rfl _ _ _) rfl ?_;exact⟨rfl,HB.out,HF.out⟩
def newE(c:Cf)(nm:Int):Int:=if ¬c.may then 7 else if 1<=nm/\nm<=c.l then 0 else 1
theorem zabh(hE:newE ⟨l,s,x,q⟩ nm=0)(w:World):Calls prog 155 #[.int .i64 nm,.agg #[.int .i64 l,.int .i64 s,.int .i64 x,.int .i64 q]] w fun e w'=>∃lb,e=.returned (.tuple #[.pointer (some ⟨lb,0,none⟩),.int .i64 0])/\w.heap.size<=lb/\LnM w' lb nm l s x q none []/\Fr [] w w':=by
 have HC:=fun w=>zdh l s x q w;have hm:Cf.may ⟨l,s,x,q⟩:=Classical.byContradiction fun hm=>by simp only[newE,hm]at hE;simp at hE
 have hn:1<=nm/\nm<=l:=Classical.byContradiction fun hn=>by simp only[newE,hm]at hE;simp[hn]at hE
 have E:Cf.err ⟨l,s,x,q⟩=0:=if_pos hm;rw[E]at HC
 have h1:¬(nm<1):=by omega
 have h2:¬(l<nm):=by omega
 clear hE E hm hn;go_enter func155,ntmps155;go_wp2_with fail
 refine (HC _).mono ?_;rintro e w1⟨rfl,hF1⟩;have HF:Hid (Fr [] w w1):=(Fr.alloc _ _ _).then hF1;obtain⟨_,c0,c1,c2,c3⟩:=(CfM.new w l s x q 23).keep hF1;have HB:Hid (LnM (w1.alloc (.cells #[.int .i64 nm,.int .i64 l,.int .i64 s,.int .i64 x,.int .i64 q,.iface 293 (.agg #[])] 200)) w1.heap.size nm l s x q none []):=heap_alloc_new w1 _;clear hF1;go_wp2;refine bodyPost_ret (results_tmp2 rfl _ _ _) rfl ?_;exact⟨_,rfl,HF.out.size,HB.out,HF.out.then (Fr.alloc _ _ _)⟩
end
theorem zaio(b:Nat)(w:World):(method 662 295 (.pointer (some ⟨b,0,none⟩)) "towpath/replica.can").run prog w=.ok (264,.pointer (some ⟨b,0,none⟩)) w:=by kernel_rfl
theorem zaip(b:Nat)(w:World):(method 662 301 (.pointer (some ⟨b,0,none⟩)) "towpath/replica.can").run prog w=.ok (287,.pointer (some ⟨b,0,none⟩)) w:=by kernel_rfl
theorem zaiq(b:Nat)(w:World):(method 662 304 (.pointer (some ⟨b,0,none⟩)) "towpath/replica.can").run prog w=.ok (321,.pointer (some ⟨b,0,none⟩)) w:=by kernel_rfl
theorem zair(b:Nat)(w:World):(method 662 307 (.pointer (some ⟨b,0,none⟩)) "towpath/replica.can").run prog w=.ok (373,.pointer (some ⟨b,0,none⟩)) w:=by kernel_rfl
theorem zafg(b:Nat)(w:World):(method 662 295 (.pointer (some ⟨b,0,none⟩)) "towpath/replica.step").run prog w=.ok (267,.pointer (some ⟨b,0,none⟩)) w:=by kernel_rfl
theorem zafh(b:Nat)(w:World):(method 662 301 (.pointer (some ⟨b,0,none⟩)) "towpath/replica.step").run prog w=.ok (289,.pointer (some ⟨b,0,none⟩)) w:=by kernel_rfl
theorem zafi(b:Nat)(w:World):(method 662 304 (.pointer (some ⟨b,0,none⟩)) "towpath/replica.step").run prog w=.ok (322,.pointer (some ⟨b,0,none⟩)) w:=by kernel_rfl
theorem zafj(b:Nat)(w:World):(method 662 307 (.pointer (some ⟨b,0,none⟩)) "towpath/replica.step").run prog w=.ok (374,.pointer (some ⟨b,0,none⟩)) w:=by kernel_rfl
theorem zafk(b:Nat)(w:World):(method 662 301 (.pointer (some ⟨b,0,none⟩)) "towpath/replica.hear").run prog w=.ok (288,.pointer (some ⟨b,0,none⟩)) w:=by kernel_rfl
theorem zgb{w:World}{b mb:Nat}{n:Int}(h0:w.cell? ⟨b,0,none⟩=some (.pointer (some ⟨mb,0,none⟩)))(h1:w.cell? ⟨b,1,none⟩=some (.int .i64 n)) :
  (loadVar 297 ⟨b,0,none⟩).run prog w=.ok (.agg #[.pointer (some ⟨mb,0,none⟩),.int .i64 n]) w:=by
 refine run_loadVar_mid (P:=prog) w b 0 297 [.pointer (some ⟨mb,0,none⟩),.int .i64 n] (.struct (prog.fieldsOf 297)) (fun j v hj=> ?_) (by kernel_rfl) rfl (by kernel_rfl)
 match j,hj with
 |0,hj=>cases hj;exact h0
 |1,hj=>cases hj;exact h1
 |j+2,hj=>cases hj
theorem zlp{n:Nat}{t:TypeId}{v:Value}{name:String}{w:World}{f:FuncId}{pr:Bool}{path:List FieldStep}(hI:(prog.info? t).map (fun i=>(i.methods.find? (fun m=>m.name==name)).map fun m=>(m.func,m.path.toList,m.path.isEmpty))=some (some (some (f,pr),path,false))){xt:TypeId}{x:Place}(hx:(follow path t (.val v)).run prog w=.ok (xt,x) w){r:Value}(hr:(receiverAt xt x pr none).run prog w=.ok r w) :
  (method (n+1) t v name).run prog w=.ok (f,r) w:=by
 cases hi:prog.info? t with
 |none=>rw[hi]at hI;cases hI
 |some i=>
  rw[hi]at hI
  simp only[Option.map_some,Option.some.injEq]at hI;cases hm:i.methods.find? (fun m=>m.name==name) with
  |none=>rw[hm]at hI;cases hI
  |some m=>
   rw[hm]at hI
   simp only[Option.map_some,Option.some.injEq,Prod.mk.injEq]at hI;obtain⟨h1,h2,h3⟩:=hI;have ht:(typeInfo t).run prog w=.ok i w:=by simp[typeInfo,hi]
   have h4:¬m.path= #[]:=fun e=>by rw[e]at h3;cases h3
   unfold method;simp[Sem.run_bind,ht,hm,h1,h2,h4,hx,hr,Result.andThen]
section
variable{w:World}{b mb:Nat}{n:Int}
theorem zyu(h0:w.cell? ⟨b,0,none⟩=some (.pointer (some ⟨mb,0,none⟩)))(h1:w.cell? ⟨b,1,none⟩=some (.int .i64 n)):(method 662 295 (.pointer (some ⟨b,0,none⟩)) "towpath/replica.number").run prog w=.ok (266,.agg #[.pointer (some ⟨mb,0,none⟩),.int .i64 n]) w:=by
 refine zlp (n:=662-1) (path:=[⟨300,0,true⟩]) (xt:=297) (x:=.var ⟨b,0,none⟩) (pr:=false) (by kernel_rfl) (by kernel_rfl) ?_;have e:(receiverAt 297 (.var ⟨b,0,none⟩) false none).run prog w=(loadVar 297 ⟨b,0,none⟩).run prog w:=by kernel_rfl
 rw[e,zgb h0 h1]
theorem zyv(h0:w.cell? ⟨b,0,none⟩=some (.pointer (some ⟨mb,0,none⟩)))(h1:w.cell? ⟨b,1,none⟩=some (.int .i64 n)):(method 662 301 (.pointer (some ⟨b,0,none⟩)) "towpath/replica.number").run prog w=.ok (266,.agg #[.pointer (some ⟨mb,0,none⟩),.int .i64 n]) w:=by
 refine zlp (n:=662-1) (path:=[⟨303,0,true⟩]) (xt:=297) (x:=.var ⟨b,0,none⟩) (pr:=false) (by kernel_rfl) (by kernel_rfl) ?_;have e:(receiverAt 297 (.var ⟨b,0,none⟩) false none).run prog w=(loadVar 297 ⟨b,0,none⟩).run prog w:=by kernel_rfl
 rw[e,zgb h0 h1]
theorem zyw(h0:w.cell? ⟨b,0,none⟩=some (.pointer (some ⟨mb,0,none⟩)))(h1:w.cell? ⟨b,1,none⟩=some (.int .i64 n)):(method 662 304 (.pointer (some ⟨b,0,none⟩)) "towpath/replica.number").run prog w=.ok (266,.agg #[.pointer (some ⟨mb,0,none⟩),.int .i64 n]) w:=by
 refine zlp (n:=662-1) (path:=[⟨306,0,true⟩]) (xt:=297) (x:=.var ⟨b,0,none⟩) (pr:=false) (by kernel_rfl) (by kernel_rfl) ?_;have e:(receiverAt 297 (.var ⟨b,0,none⟩) false none).run prog w=(loadVar 297 ⟨b,0,none⟩).run prog w:=by kernel_rfl
 rw[e,zgb h0 h1]
theorem zyx(h0:w.cell? ⟨b,0,none⟩=some (.pointer (some ⟨mb,0,none⟩)))(h1:w.cell? ⟨b,1,none⟩=some (.int .i64 n)):(method 662 307 (.pointer (some ⟨b,0,none⟩)) "towpath/replica.number").run prog w=.ok (266,.agg #[.pointer (some ⟨mb,0,none⟩),.int .i64 n]) w:=by
 refine zlp (n:=662-1) (path:=[⟨308,0,true⟩]) (xt:=297) (x:=.var ⟨b,0,none⟩) (pr:=false) (by kernel_rfl) (by kernel_rfl) ?_;have e:(receiverAt 297 (.var ⟨b,0,none⟩) false none).run prog w=(loadVar 297 ⟨b,0,none⟩).run prog w:=by kernel_rfl
 rw[e,zgb h0 h1]
theorem zqx(n:Int)(mb:Nat)(w:World):Calls prog 266 #[.agg #[.pointer (some ⟨mb,0,none⟩),.int .i64 n]] w fun e w'=>e=.returned (.int .i64 n)/\Fr [] w w':=by
 have HF:Hid (Fr [] w (w.alloc (.cells #[.pointer (some ⟨mb,0,none⟩),.int .i64 n] 297))):=Fr.alloc _ _ _;go_enter func266,ntmps266;go_wp2;go_ret;exact⟨rfl,HF.out⟩
end
end Go.Proofs.YtojjdnjfaelnfaaGreatDoor
