/- Contracts and plain lemmas of this claim. -/
import Derived.Test.YtembflnhhfliaaaGreatDoorGp40
import Derived.Test.YtembflnhhfliaaaGreatDoorGp14
set_option linter.unusedSimpArgs false
set_option linter.unusedVariables false
set_option maxHeartbeats 4000000
set_option maxRecDepth 100000
namespace Go.Proofs.YtembflnhhfliaaaGreatDoor
open BigFrame Go.ChangeShapes Go.WideShapes Go.ChangeAt Go.RowKit Go.Lib Go.Maps
theorem zcq {w : World} {sb : Nat} (h : w.cell? ⟨sb, 0, none⟩ = some (.bool true)) : Calls Tryz.prog 72 #[.pointer (some ⟨sb, 0, none⟩)] w fun e w' => e = .returned (.bool true) /\ w = w' := by
  go_enter Tryz.func72, Tryz.ntmps72
  go_wp2
  go_ret
  exact ⟨rfl, rfl⟩
theorem zlz (w : World) : Calls Tryz.prog 72 #[.pointer none] w fun e w' => e = .returned (.bool false) /\ w = w' := by
  go_enter Tryz.func72, Tryz.ntmps72
  go_wp2
  go_ret
  exact ⟨rfl, rfl⟩
theorem zva {w : World} {sb d fb ab : Nat} {fo : Option Addr} {fc ac slot : Nat} {zs : List Nat} {k n : Nat} (h : SaM w sb d fb ab fo fc ac slot zs k) (hn : n = nB zs.length + 1 - k) : Calls Tryz.prog 12 #[.pointer (some ⟨sb, 0, none⟩)] w fun e w' => e = .returned (.int .i64 (n : Int)) /\ w = w' := by
  have c1 := h.c1
  rw [<- hn] at c1
  have HT : Hid (Calls _ _ _ _ _) := zcq h.c0
  clear h hn
  go_enter Tryz.func12, Tryz.ntmps12
  go_wp2_with fail
  refine Calls.mono HT.out ?_
  rintro e w1 ⟨rfl, rfl⟩
  clear HT
  go_wp2
  go_ret
  exact ⟨rfl, rfl⟩
theorem zxa (w : World) : Calls Tryz.prog 12 #[.pointer none] w fun e w' => e = .returned (.int .i64 0) /\ w = w' := by
  have HT : Hid (Calls _ _ _ _ _) := zlz w
  go_enter Tryz.func12, Tryz.ntmps12
  go_wp2_with fail
  refine Calls.mono HT.out ?_
  rintro e w1 ⟨rfl, rfl⟩
  go_wp2
  go_ret
  exact ⟨rfl, rfl⟩
theorem zxb (w : World) : Calls Tryz.prog 11 #[.pointer none] w fun e w' => e = .returned (.int .i64 2) /\ w = w' := by
  have HT : Hid (Calls _ _ _ _ _) := zlz w
  go_enter Tryz.func11, Tryz.ntmps11
  go_wp2_with fail
  refine Calls.mono HT.out ?_
  rintro e w1 ⟨rfl, rfl⟩
  go_wp2
  go_ret
  exact ⟨rfl, rfl⟩
def besN (i : Nat) (ok : Bool) : Nat := if ok then 1 - i else 0
theorem zsm (i : Nat) (ok : Bool) (w : World) (hi : i <= 1) : Calls Tryz.prog 80 #[.int .i64 (i : Int), .bool ok] w fun e w' => e = .returned (.int .i64 (besN i ok : Int)) /\ w = w' := by
  cases ok with
  | false =>
    go_enter Tryz.func80, Tryz.ntmps80
    go_wp2
    go_ret
    exact ⟨rfl, rfl⟩
  | true =>
    have e1 : ((besN i true : Nat) : Int) = 1 - (i : Int) := by simp [besN]; omega
    rw [e1]
    go_enter Tryz.func80, Tryz.ntmps80
    go_wp2
    go_ret
    exact ⟨rfl, rfl⟩
theorem Tryz.infoFn0 : (Tryz.prog.info? 63).map (fun i => (i.zero, i.size, i.bytes)) = some (some .nilFunc, 1, 8) := by kernel_rfl
theorem Tryz.undFns : Tryz.prog.underlying 36 = some (.slice 63) := by kernel_rfl
theorem zxc (d slot ab n ac : Nat) (w : World) (hn : n <= 16777216) (hac : n <= ac) (hs : slot <= 1) :
    Calls Tryz.prog 79 #[.pointer (some ⟨d, 0, none⟩), .int .i64 (slot : Int), .slice (some ⟨ab, 0, none⟩) n ac] w fun e w' => ∃ fb fc, e = .returned (.slice (some ⟨fb, 0, none⟩) (nB n + 1) fc) /\ w'.ownsRow w.heap.size 63 1 (.slice (some ⟨fb, 0, none⟩) (nB n + 1) fc) (nB n + 1) (zbn d slot ab ac n (nB n)) /\ Fr [] w w' := by
  obtain ⟨i0, hi, hz0, hz1, hz2⟩ := info_parts Tryz.infoFn0
  obtain ⟨w1, HW1⟩ : ∃ w1, Hid (w.alloc (.cells #[zkk d slot] 63) = w1) := ⟨_, rfl⟩
  have hF1 : Fr [] w w1 := by rw [<- HW1.out]; exact Fr.alloc [] w _
  obtain ⟨R, hR⟩ : ∃ R, R = w.heap.size := ⟨_, rfl⟩
  have hO1 : w1.ownsRow 0 63 1 (.slice (some ⟨R, 0, none⟩) (0 + 1) 1) (0 + 1) (zbn d slot ab ac n 0) := by
    refine ⟨by simp [zbn], .inr ⟨R, 1, #[zkk d slot], rfl, by omega, ?_, by omega, by unfold maxLen; omega, by simp, by simp [zbn]⟩⟩
    rw [<- HW1.out, hR]
    exact heap_alloc_new w _
  have HO1 : Hid (w1.ownsRow 0 63 1 (.slice (some ⟨R, 0, none⟩) (0 + 1) 1) (0 + 1) (zbn d slot ab ac n 0) /\ w.heap.size <= R /\ Fr [] w w1) := ⟨hO1, by omega, hF1⟩
  clear hO1 hF1
  go_enter Tryz.func79, Tryz.ntmps79
  go_upto_region 2 with fail
  rw [show w.alloc (.cells #[Value.func (Fn.func 130) #[.agg #[.pointer (some ⟨d, 0, none⟩), .int .i64 (slot : Int), .int .i64 0, .slice none 0 0]] #[]] 63) = w1 from HW1.out]
  rw [<- hR]
  clear HW1 hR
  go_wp2_with fail
  go_loopw [7, 8] (fun ll aa wr => ∃ (k a fb fc : Nat), ll = .slice (some ⟨fb, 0, none⟩) (k + 1) fc /\ aa = .int .i64 (a : Int) /\ a <= n + 63 /\ Hid (a = 64 * k /\ k <= nB n) /\ Hid (wr.ownsRow 0 63 1 (.slice (some ⟨fb, 0, none⟩) (k + 1) fc) (k + 1) (zbn d slot ab ac n k) /\ w.heap.size <= fb /\ Fr [] w wr)) (fun _ aa _ => n + 64 - (RowKit.intOf aa).toNat)
  case atStart => exact ⟨0, 0, R, 1, rfl, rfl, by omega, ⟨rfl, Nat.zero_le _⟩, HO1⟩
  case round =>
    clear HO1
    obtain ⟨k, a, fb, fc, rfl, rfl, hau, HK, HO⟩ := hrel
    by_cases ha : a < n
    · have hlt : (a : Int) < n := by omega
      have hk1 : k < nB n := zaah (by have := HK.out.1; omega)
      have hkb : k <= 262144 := by have := zet hn; omega
      obtain ⟨en, HEn⟩ : ∃ en, Hid (en = min (a + 64) n) := ⟨_, rfl⟩
      have hen : a < en /\ en <= a + 64 /\ en <= n := by have := HEn.out; omega
      obtain ⟨h1, h2, h3⟩ := hen
      have hsl : ∀ W : World, (Instr.sliceAt 58 (.slice (some ⟨ab, 0, none⟩) n ac) (some (.int .i64 (a : Int))) (some (.int .i64 (en : Int))) none).run Tryz.prog W = .ok (.slice (some ⟨ab, a, none⟩) (en - a) (ac - a)) W := fun W => by
        rw [zgi (some ⟨ab, 0, none⟩) n ac a en (by omega) (by omega) W]
        unfold zav
        rw [if_neg (by omega)]
        simp [Addr.add_lit]
      obtain ⟨V, HV⟩ : ∃ V, Hid (V = Value.func (Fn.func 131) #[.agg #[.pointer (some ⟨d, 0, none⟩), .int .i64 (slot : Int), .int .i64 (a : Int), .slice (some ⟨ab, a, none⟩) (en - a) (ac - a)]] #[]) := ⟨_, rfl⟩
      have HVp : Hid (zgk d slot ab ac n k = V) := by
        show _ = _
        rw [HV.out, HEn.out, HK.out.1]
        rfl
      have hV1 : V.oneCell' = true := by rw [HV.out]; rfl
      have HOa : Hid ((wr.alloc (Obj.cells #[V] 63)).ownsRow 0 63 1 (.slice (some ⟨fb, 0, none⟩) (k + 1) fc) (k + 1) (zbn d slot ab ac n k)) := zab HO.out.1 (Fr.alloc [] _ _) (by simp)
      have hnew : (wr.alloc (Obj.cells #[V] 63)).heap[wr.heap.size]? = some (Obj.cells #[V] 63) := heap_alloc_new wr _
      have HNw : Hid (∀ (j : Nat) u, [V][j]? = some u -> (wr.alloc (Obj.cells #[V] 63)).cell? ((⟨wr.heap.size, 0, none⟩ : Addr).add j) = some u) := by
        intro j u hj
        rw [show (⟨wr.heap.size, 0, none⟩ : Addr).add j = ⟨wr.heap.size, j, none⟩ from by rw [Addr.add_lit, Nat.zero_add], cell_of_row _ _ _ _ _ _ hnew]
        simpa using hj
      have HNx : Hid (∀ g' c' w', w'.ownsRow 0 63 1 (.slice (some ⟨g', 0, none⟩) (k + 1 + 1) c') (k + 1 + 1) (zbn d slot ab ac n k ++ [V]) -> Went (wr.alloc (Obj.cells #[V] 63)) (.slice (some ⟨fb, 0, none⟩) (k + 1) fc) g' w' -> Hid (w'.ownsRow 0 63 1 (.slice (some ⟨g', 0, none⟩) (k + 1 + 1) c') (k + 1 + 1) (zbn d slot ab ac n (k + 1)) /\ w.heap.size <= g' /\ Fr [] w w')) := fun g' c' w' hO hW => by
        have hFa : Fr [] w (wr.alloc (Obj.cells #[V] 63)) := HO.out.2.2.then (Fr.alloc [] _ _)
        refine ⟨by rw [zsl, HVp.out]; exact hO, ?_, ?_⟩
        · rcases hW with ⟨hv, _⟩ | ⟨hv, _⟩
          · simp [Value.ownBlock] at hv
            have := HO.out.2.1
            omega
          · have := hFa.size
            omega
        · exact hFa.on hW.fr (fun j hj => by simp [Value.ownBlock] at hj; have := HO.out.2.1; omega)
      clear hnew
      have hmin : min ((a : Int) + 64) (n : Int) = (en : Int) := by have := HEn.out; omega
      go_upto_region 6 with fail
      clear hmin
      go_wp2_with (at_builtin; go_loud (rw [<- HV.out]; refine zjx _ rfl (.tmp 26) (.tmp 36) 36 rfl 63 i0 .nilFunc 1 8 Tryz.undFns hi hz0 hz1 hz2 rfl (by omega) _ _ _ rfl HOa.out ⟨wr.heap.size, 0, none⟩ 1 [V] rfl rfl HNw.out (by simpa using hV1) (by omega) (by simp only [maxLen]; omega) ?_))
      intro g' c' w' hO2 hW2
      have HR := HNx.out g' c' w' hO2 hW2
      have HK2 : Hid (a + 64 = 64 * (k + 1) /\ k + 1 <= nB n) := ⟨by have := HK.out.1; omega, by omega⟩
      clear hO2 hW2 HNx HOa HNw HK hsl
      go_wp2_with fail
      go_roundw
      case rel => exact ⟨k + 1, a + 64, g', c', rfl, by simp, by omega, HK2, HR⟩
      case measure => simp [RowKit.intOf]; omega
    · have hlt : ¬ (a : Int) < n := by omega
      have hkk : k = nB n := by have := zaai (n := n) (k := k) (by have := HK.out.1; omega); have := HK.out.2; omega
      have HR : Hid (wr.ownsRow w.heap.size 63 1 (.slice (some ⟨fb, 0, none⟩) (nB n + 1) fc) (nB n + 1) (zbn d slot ab ac n (nB n)) /\ Fr [] w wr) := by
        rw [<- hkk]
        refine ⟨⟨HO.out.1.1, ?_⟩, HO.out.2.2⟩
        rcases HO.out.1.2 with ⟨hh, _⟩ | ⟨g, cap, cur, hh, _, hr⟩
        · cases hh
        · cases hh
          exact .inr ⟨fb, fc, cur, rfl, HO.out.2.1, hr⟩
      have HKk : Hid (k = nB n) := hkk
      clear hkk
      go_wp2
      go_ret
      rw [HKk.out]
      exact ⟨fb, fc, rfl, HR.out⟩
theorem zkm {w0 w : World} {d slot : Nat} {S : List Nat} {t t' : Sk} {E : Int} (h : LD w0 w d S t) (hn : t.n < 2^40) (hc : Cleared t (slot : Int) E t') :
    Calls Tryz.prog 130 #[.agg #[.pointer (some ⟨d, 0, none⟩), .int .i64 (slot : Int), .int .i64 0, .slice none 0 0]] w fun e w' => e = .returned (.int .i64 E) /\ ∃ S', LD w0 w' d S' t' /\ To S S' w w' := by
  obtain ⟨w1, HW1⟩ : ∃ w1, Hid (w.alloc (.cells #[.pointer (some ⟨d, 0, none⟩), .int .i64 (slot : Int), .int .i64 0, .slice none 0 0] 190) = w1) := ⟨_, rfl⟩
  have hF1 : Fr [] w w1 := by rw [<- HW1.out]; exact Fr.alloc [] w _
  have hb1 : w1.heap[w.heap.size]? = some (.cells #[.pointer (some ⟨d, 0, none⟩), .int .i64 (slot : Int), .int .i64 0, .slice none 0 0] 190 (0, 0)) := by rw [<- HW1.out]; exact heap_alloc_new w _
  obtain ⟨R, hR⟩ : ∃ R, R = w.heap.size := ⟨_, rfl⟩
  have c0 : w1.cell? ⟨R, 0, none⟩ = some (.pointer (some ⟨d, 0, none⟩)) := by rw [hR, cell_of_row _ _ _ _ _ _ hb1]; rfl
  have c1 : w1.cell? ⟨R, 1, none⟩ = some (.int .i64 (slot : Int)) := by rw [hR, cell_of_row _ _ _ _ _ _ hb1]; rfl
  have HC : Hid (Calls _ _ _ _ _) := zwz (h.quiet hF1) hn hc
  have HF : Hid (Fr [] w w1) := hF1
  clear h hc hb1 hF1
  go_enter Tryz.func130, Tryz.ntmps130
  go_upto_region 1 with fail
  rw [HW1.out, <- hR]
  clear HW1 hR
  go_wp2_with fail
  refine Calls.mono HC.out ?_
  rintro e w2 ⟨rfl, S', hL, hT⟩
  have HR : Hid (∃ S', LD w0 w2 d S' t' /\ To S S' w w2) := ⟨S', hL, (To.quiet HF.out).then hT⟩
  clear hL hT HC
  go_wp2
  go_ret
  exact ⟨rfl, HR.out⟩
theorem zkn {w0 w : World} {d slot a : Nat} {S : List Nat} {t t' : Sk} {E : Int} {bo : Option Addr} {M cb : Nat} {ys : List Nat} (h : LD w0 w d S t) (hn : t.n < 2^40) (ha : a <= 9223372036854775807) (hB : BArg w bo M cb ys) (hap : 0 < M -> ∀ a, bo = some a -> a.block ∉ S) (hc : Wrote t (slot : Int) (a : Int) ys E t') :
    Calls Tryz.prog 131 #[.agg #[.pointer (some ⟨d, 0, none⟩), .int .i64 (slot : Int), .int .i64 (a : Int), .slice bo M cb]] w fun e w' => e = .returned (.int .i64 E) /\ ∃ S', LD w0 w' d S' t' /\ To S S' w w' := by
  obtain ⟨w1, HW1⟩ : ∃ w1, Hid (w.alloc (.cells #[.pointer (some ⟨d, 0, none⟩), .int .i64 (slot : Int), .int .i64 (a : Int), .slice bo M cb] 190) = w1) := ⟨_, rfl⟩
  have hF1 : Fr [] w w1 := by rw [<- HW1.out]; exact Fr.alloc [] w _
  have hb1 : w1.heap[w.heap.size]? = some (.cells #[.pointer (some ⟨d, 0, none⟩), .int .i64 (slot : Int), .int .i64 (a : Int), .slice bo M cb] 190 (0, 0)) := by rw [<- HW1.out]; exact heap_alloc_new w _
  obtain ⟨R, hR⟩ : ∃ R, R = w.heap.size := ⟨_, rfl⟩
  have c0 : w1.cell? ⟨R, 0, none⟩ = some (.pointer (some ⟨d, 0, none⟩)) := by rw [hR, cell_of_row _ _ _ _ _ _ hb1]; rfl
  have c1 : w1.cell? ⟨R, 1, none⟩ = some (.int .i64 (slot : Int)) := by rw [hR, cell_of_row _ _ _ _ _ _ hb1]; rfl
  have c2 : w1.cell? ⟨R, 2, none⟩ = some (.int .i64 (a : Int)) := by rw [hR, cell_of_row _ _ _ _ _ _ hb1]; rfl
  have c3 : w1.cell? ⟨R, 3, none⟩ = some (.slice bo M cb) := by rw [hR, cell_of_row _ _ _ _ _ _ hb1]; rfl
  have HC : Hid (Calls _ _ _ _ _) := zod (h.quiet hF1) hn (by omega) (hB.keep hF1) hap hc
  have HF : Hid (Fr [] w w1) := hF1
  clear h hc hb1 hF1 hB hap
  go_enter Tryz.func131, Tryz.ntmps131
  go_upto_region 1 with fail
  rw [HW1.out, <- hR]
  clear HW1 hR
  go_wp2_with fail
  refine Calls.mono HC.out ?_
  rintro e w2 ⟨rfl, S', hL, hT⟩
  have HR : Hid (∃ S', LD w0 w2 d S' t' /\ To S S' w w2) := ⟨S', hL, (To.quiet HF.out).then hT⟩
  clear hL hT HC
  go_wp2
  go_ret
  exact ⟨rfl, HR.out⟩
def StP (w0 w : World) (d sb fb ab ac slot : Nat) (S : List Nat) (zs : List Nat) (E : Int) (t' : Sk) (k' : Nat) (e : Ending) (w' : World) : Prop := e = .returned (.int .i64 E) /\ ∃ S' fo' fc', LD w0 w' d S' t' /\ SaM w' sb d fb ab fo' fc' ac slot zs k' /\ (∀ q ∈ S', q ∈ S \/ w.heap.size <= q) /\ Fr (sb :: S) w w'
theorem zof {w0 w : World} {d sb fb ab ac slot fc k : Nat} {fo : Option Addr} {S : List Nat} {t t' : Sk} {zs : List Nat} (h : LD w0 w d S t) (hs : SaM w sb d fb ab fo fc ac slot zs k) (h1 : sb ∉ S) (h2 : fb ∉ S) (h3 : ab ∉ S) (hnw : w0.heap.size <= sb) (hn : t.n < 2^40) (hk0 : k = 0) (hc : Cleared t (slot : Int) 0 t'):
    Calls Tryz.prog 11 #[.pointer (some ⟨sb, 0, none⟩)] w fun e w' => StP w0 w d sb fb ab ac slot S zs 0 t' (k + 1) e w' := by
  obtain ⟨n, hnn⟩ : ∃ n, n = nB zs.length + 1 - k := ⟨_, rfl⟩
  have c1 := hs.c1
  rw [<- hnn] at c1
  have HT : Hid (Calls _ _ _ _ _) := zcq hs.c0
  obtain ⟨hfo, hcell⟩ := hs.raw (by omega)
  subst hfo
  have hcell' : w.cell? ⟨fb, k, none⟩ = some (.func (.func 130) #[.agg #[.pointer (some ⟨d, 0, none⟩), .int .i64 (slot : Int), .int .i64 0, .slice none 0 0]] #[]) := by
    rw [hcell]
    conv => lhs; rw [hk0]
    rw [zkl]
    rfl
  clear hcell
  have hn1 : 0 < n := by omega
  have hn0 : ((n : Int) == 0) = false := by simp; omega
  have HC : Hid (Calls _ _ _ _ _) := zkm h hn hc
  have HSm : Hid (SaM w sb d fb ab (some ⟨fb, k, none⟩) fc ac slot zs k) := hs
  have HN : Hid (n = nB zs.length + 1 - k /\ k <= nB zs.length) := ⟨hnn, by omega⟩
  have HAp : Hid ((sb ∉ S /\ fb ∉ S /\ ab ∉ S) /\ w0.heap.size <= sb) := ⟨⟨h1, h2, h3⟩, hnw⟩
  have HBl : Hid (sb < w.heap.size /\ fb < w.heap.size /\ ab < w.heap.size) := ⟨hs.blocks.1, hs.blocks.2.1, hs.blocks.2.2.1⟩
  have hsl : ∀ W : World, (Instr.sliceAt 36 (.slice (some ⟨fb, k, none⟩) n fc) (some (.int .i64 1)) none none).run Tryz.prog W = .ok (.slice (zav (some ⟨fb, k, none⟩) fc 1) (n - 1) (fc - 1)) W := fun W => zxq (some ⟨fb, k, none⟩) n fc 1 (by omega) W
  obtain ⟨fo1, HFo⟩ : ∃ fo1, Hid (fo1 = zav (some ⟨fb, k, none⟩) fc 1) := ⟨_, rfl⟩
  rw [<- HFo.out] at hsl
  clear h hs h1 h2 h3 hnn hk0 hc
  go_enter Tryz.func11, Tryz.ntmps11
  go_wp2_with fail
  refine Calls.mono HT.out ?_
  rintro e w1 ⟨rfl, rfl⟩
  clear HT
  go_wp2_with fail
  refine Calls.mono HC.out ?_
  rintro e w2 ⟨rfl, S', hL, hT⟩
  have HSm2 : Hid (SaM w2 sb d fb ab (some ⟨fb, k, none⟩) fc ac slot zs k) := HSm.out.keep hT.fr HAp.out.1.1 HAp.out.1.2.1 HAp.out.1.2.2
  have HT2 : Hid (LD w0 w2 d S' t' /\ To S S' w w2) := ⟨hL, hT⟩
  have c1' := HSm2.out.c1
  rw [<- HN.out.1] at c1'
  clear HC hL hT c1 hcell' HSm
  have f1' := HSm2.out.f1
  have HR : Hid (StP w0 w d sb fb ab ac slot S zs 0 t' (k + 1) (.returned (.int .i64 0)) (w2.setCell ⟨sb, 1, none⟩ (.slice fo1 (n - 1) (fc - 1)))) := by
    obtain ⟨q1, q2⟩ := HSm2.out.step HN.out.2
    rw [<- HN.out.1, <- HFo.out] at q1 q2
    have hsS' : ∀ q ∈ [sb], q ∉ S' := fun q hq hm => by
      simp at hq
      subst hq
      rcases HT2.out.2.grew q hm with p | p
      · exact HAp.out.1.1 p
      · have := HBl.out.1; omega
    exact ⟨rfl, S', _, _, HT2.out.1.keepS q2 hsS' (fun q hq => by simp at hq; subst hq; exact HAp.out.2), q1, HT2.out.2.grew, (HT2.out.2.fr.mono (fun x hx _ => List.mem_cons_of_mem _ hx)).then (q2.mono (fun x hx _ => by simp at hx; subst hx; exact List.mem_cons_self))⟩
  go_wp2
  go_ret
  exact HR.out
theorem zog {w0 w : World} {d sb fb ab ac slot fc k : Nat} {fo : Option Addr} {S : List Nat} {t t' : Sk} {E : Int} {zs : List Nat} (h : LD w0 w d S t) (hs : SaM w sb d fb ab fo fc ac slot zs k) (h1 : sb ∉ S) (h2 : fb ∉ S) (h3 : ab ∉ S) (hnw : w0.heap.size <= sb) (hn : t.n < 2^40) (hk0 : k = 0) (hc : Cleared t (slot : Int) E t') (hne : E ≠ 0):
    Calls Tryz.prog 11 #[.pointer (some ⟨sb, 0, none⟩)] w fun e w' => StP w0 w d sb fb ab ac slot S zs E t' k e w' := by
  obtain ⟨n, hnn⟩ : ∃ n, n = nB zs.length + 1 - k := ⟨_, rfl⟩
  have c1 := hs.c1
  rw [<- hnn] at c1
  have HT : Hid (Calls _ _ _ _ _) := zcq hs.c0
  obtain ⟨hfo, hcell⟩ := hs.raw (by omega)
  subst hfo
  have hcell' : w.cell? ⟨fb, k, none⟩ = some (.func (.func 130) #[.agg #[.pointer (some ⟨d, 0, none⟩), .int .i64 (slot : Int), .int .i64 0, .slice none 0 0]] #[]) := by
    rw [hcell]
    conv => lhs; rw [hk0]
    rw [zkl]
    rfl
  clear hcell
  have hn1 : 0 < n := by omega
  have hn0 : ((n : Int) == 0) = false := by simp; omega
  have HC : Hid (Calls _ _ _ _ _) := zkm h hn hc
  have HSm : Hid (SaM w sb d fb ab (some ⟨fb, k, none⟩) fc ac slot zs k) := hs
  have HN : Hid (n = nB zs.length + 1 - k /\ k <= nB zs.length) := ⟨hnn, by omega⟩
  have HAp : Hid ((sb ∉ S /\ fb ∉ S /\ ab ∉ S) /\ w0.heap.size <= sb) := ⟨⟨h1, h2, h3⟩, hnw⟩
  have HBl : Hid (sb < w.heap.size /\ fb < w.heap.size /\ ab < w.heap.size) := ⟨hs.blocks.1, hs.blocks.2.1, hs.blocks.2.2.1⟩
  clear h hs h1 h2 h3 hnn hk0 hc
  go_enter Tryz.func11, Tryz.ntmps11
  go_wp2_with fail
  refine Calls.mono HT.out ?_
  rintro e w1 ⟨rfl, rfl⟩
  clear HT
  go_wp2_with fail
  refine Calls.mono HC.out ?_
  rintro e w2 ⟨rfl, S', hL, hT⟩
  have HSm2 : Hid (SaM w2 sb d fb ab (some ⟨fb, k, none⟩) fc ac slot zs k) := HSm.out.keep hT.fr HAp.out.1.1 HAp.out.1.2.1 HAp.out.1.2.2
  have HT2 : Hid (LD w0 w2 d S' t' /\ To S S' w w2) := ⟨hL, hT⟩
  have c1' := HSm2.out.c1
  rw [<- HN.out.1] at c1'
  clear HC hL hT c1 hcell' HSm
  have HR : Hid (StP w0 w d sb fb ab ac slot S zs E t' k (.returned (.int .i64 E)) w2) := ⟨rfl, S', _, _, HT2.out.1, HSm2.out, HT2.out.2.grew, HT2.out.2.fr.mono (fun x hx _ => List.mem_cons_of_mem _ hx)⟩
  have hE : (E != 0) = true := by simpa using hne
  go_wp2
  go_ret
  exact HR.out
theorem zoh {w0 w : World} {d sb fb ab ac slot fc k : Nat} {fo : Option Addr} {S : List Nat} {t t' : Sk} {zs : List Nat} (h : LD w0 w d S t) (hs : SaM w sb d fb ab fo fc ac slot zs k) (h1 : sb ∉ S) (h2 : fb ∉ S) (h3 : ab ∉ S) (hnw : w0.heap.size <= sb) (hn : t.n < 2^40) (q : Nat) (hk : k = q + 1) (hq : q < nB zs.length) (hc : Wrote t (slot : Int) ((64 * q : Nat) : Int) (chunk zs q) 0 t'):
    Calls Tryz.prog 11 #[.pointer (some ⟨sb, 0, none⟩)] w fun e w' => StP w0 w d sb fb ab ac slot S zs 0 t' (k + 1) e w' := by
  obtain ⟨n, hnn⟩ : ∃ n, n = nB zs.length + 1 - k := ⟨_, rfl⟩
  have c1 := hs.c1
  rw [<- hnn] at c1
  have HT : Hid (Calls _ _ _ _ _) := zcq hs.c0
  obtain ⟨hfo, hcell⟩ := hs.raw (by omega)
  subst hfo
  rw [hk, zly d slot ab ac zs.length (nB zs.length) q hq] at hcell
  unfold zgk at hcell
  rw [<- hk] at hcell
  have hch := hs.chunk q hq
  have hq64 : 64 * q <= 16777216 := by have := zig hq; have := hs.few; omega
  obtain ⟨a, haq⟩ : ∃ a, a = 64 * q := ⟨_, rfl⟩
  obtain ⟨M, hM⟩ : ∃ M, M = min (64 * q + 64) zs.length - 64 * q := ⟨_, rfl⟩
  rw [<- hM, <- haq] at hcell hch
  rw [<- haq] at hc
  have hcell' : w.cell? ⟨fb, k, none⟩ = some (.func (.func 131) #[.agg #[.pointer (some ⟨d, 0, none⟩), .int .i64 (slot : Int), .int .i64 (a : Int), .slice (some ⟨ab, a, none⟩) M (ac - a)]] #[]) := hcell
  have HAq : Hid (a = 64 * q) := haq
  have HMq : Hid (M = min (64 * q + 64) zs.length - 64 * q) := hM
  clear hcell haq hM
  have hn1 : 0 < n := by omega
  have hn0 : ((n : Int) == 0) = false := by simp; omega
  have HC : Hid (Calls _ _ _ _ _) := zkn h hn (by have := HAq.out; omega) hch (fun _ p hp => by cases hp; exact h3) hc
  have HSm : Hid (SaM w sb d fb ab (some ⟨fb, k, none⟩) fc ac slot zs k) := hs
  have HN : Hid (n = nB zs.length + 1 - k /\ k <= nB zs.length) := ⟨hnn, by omega⟩
  have HAp : Hid ((sb ∉ S /\ fb ∉ S /\ ab ∉ S) /\ w0.heap.size <= sb) := ⟨⟨h1, h2, h3⟩, hnw⟩
  have HBl : Hid (sb < w.heap.size /\ fb < w.heap.size /\ ab < w.heap.size) := ⟨hs.blocks.1, hs.blocks.2.1, hs.blocks.2.2.1⟩
  have hsl : ∀ W : World, (Instr.sliceAt 36 (.slice (some ⟨fb, k, none⟩) n fc) (some (.int .i64 1)) none none).run Tryz.prog W = .ok (.slice (zav (some ⟨fb, k, none⟩) fc 1) (n - 1) (fc - 1)) W := fun W => zxq (some ⟨fb, k, none⟩) n fc 1 (by omega) W
  obtain ⟨fo1, HFo⟩ : ∃ fo1, Hid (fo1 = zav (some ⟨fb, k, none⟩) fc 1) := ⟨_, rfl⟩
  rw [<- HFo.out] at hsl
  clear h hs h1 h2 h3 hnn hk hq hc hch hq64
  go_enter Tryz.func11, Tryz.ntmps11
  go_wp2_with fail
  refine Calls.mono HT.out ?_
  rintro e w1 ⟨rfl, rfl⟩
  clear HT
  go_wp2_with fail
  refine Calls.mono HC.out ?_
  rintro e w2 ⟨rfl, S', hL, hT⟩
  have HSm2 : Hid (SaM w2 sb d fb ab (some ⟨fb, k, none⟩) fc ac slot zs k) := HSm.out.keep hT.fr HAp.out.1.1 HAp.out.1.2.1 HAp.out.1.2.2
  have HT2 : Hid (LD w0 w2 d S' t' /\ To S S' w w2) := ⟨hL, hT⟩
  have c1' := HSm2.out.c1
  rw [<- HN.out.1] at c1'
  clear HC hL hT c1 hcell' HSm
  have f1' := HSm2.out.f1
  have HR : Hid (StP w0 w d sb fb ab ac slot S zs 0 t' (k + 1) (.returned (.int .i64 0)) (w2.setCell ⟨sb, 1, none⟩ (.slice fo1 (n - 1) (fc - 1)))) := by
    obtain ⟨q1, q2⟩ := HSm2.out.step HN.out.2
    rw [<- HN.out.1, <- HFo.out] at q1 q2
    have hsS' : ∀ q ∈ [sb], q ∉ S' := fun q hq hm => by
      simp at hq
      subst hq
      rcases HT2.out.2.grew q hm with p | p
      · exact HAp.out.1.1 p
      · have := HBl.out.1; omega
    exact ⟨rfl, S', _, _, HT2.out.1.keepS q2 hsS' (fun q hq => by simp at hq; subst hq; exact HAp.out.2), q1, HT2.out.2.grew, (HT2.out.2.fr.mono (fun x hx _ => List.mem_cons_of_mem _ hx)).then (q2.mono (fun x hx _ => by simp at hx; subst hx; exact List.mem_cons_self))⟩
  go_wp2
  go_ret
  exact HR.out
theorem zoi {w0 w : World} {d sb fb ab ac slot fc k : Nat} {fo : Option Addr} {S : List Nat} {t t' : Sk} {E : Int} {zs : List Nat} (h : LD w0 w d S t) (hs : SaM w sb d fb ab fo fc ac slot zs k) (h1 : sb ∉ S) (h2 : fb ∉ S) (h3 : ab ∉ S) (hnw : w0.heap.size <= sb) (hn : t.n < 2^40) (q : Nat) (hk : k = q + 1) (hq : q < nB zs.length) (hc : Wrote t (slot : Int) ((64 * q : Nat) : Int) (chunk zs q) E t') (hne : E ≠ 0):
    Calls Tryz.prog 11 #[.pointer (some ⟨sb, 0, none⟩)] w fun e w' => StP w0 w d sb fb ab ac slot S zs E t' k e w' := by
  obtain ⟨n, hnn⟩ : ∃ n, n = nB zs.length + 1 - k := ⟨_, rfl⟩
  have c1 := hs.c1
  rw [<- hnn] at c1
  have HT : Hid (Calls _ _ _ _ _) := zcq hs.c0
  obtain ⟨hfo, hcell⟩ := hs.raw (by omega)
  subst hfo
  rw [hk, zly d slot ab ac zs.length (nB zs.length) q hq] at hcell
  unfold zgk at hcell
  rw [<- hk] at hcell
  have hch := hs.chunk q hq
  have hq64 : 64 * q <= 16777216 := by have := zig hq; have := hs.few; omega
  obtain ⟨a, haq⟩ : ∃ a, a = 64 * q := ⟨_, rfl⟩
  obtain ⟨M, hM⟩ : ∃ M, M = min (64 * q + 64) zs.length - 64 * q := ⟨_, rfl⟩
  rw [<- hM, <- haq] at hcell hch
  rw [<- haq] at hc
  have hcell' : w.cell? ⟨fb, k, none⟩ = some (.func (.func 131) #[.agg #[.pointer (some ⟨d, 0, none⟩), .int .i64 (slot : Int), .int .i64 (a : Int), .slice (some ⟨ab, a, none⟩) M (ac - a)]] #[]) := hcell
  have HAq : Hid (a = 64 * q) := haq
  have HMq : Hid (M = min (64 * q + 64) zs.length - 64 * q) := hM
  clear hcell haq hM
  have hn1 : 0 < n := by omega
  have hn0 : ((n : Int) == 0) = false := by simp; omega
  have HC : Hid (Calls _ _ _ _ _) := zkn h hn (by have := HAq.out; omega) hch (fun _ p hp => by cases hp; exact h3) hc
  have HSm : Hid (SaM w sb d fb ab (some ⟨fb, k, none⟩) fc ac slot zs k) := hs
  have HN : Hid (n = nB zs.length + 1 - k /\ k <= nB zs.length) := ⟨hnn, by omega⟩
  have HAp : Hid ((sb ∉ S /\ fb ∉ S /\ ab ∉ S) /\ w0.heap.size <= sb) := ⟨⟨h1, h2, h3⟩, hnw⟩
  have HBl : Hid (sb < w.heap.size /\ fb < w.heap.size /\ ab < w.heap.size) := ⟨hs.blocks.1, hs.blocks.2.1, hs.blocks.2.2.1⟩
  clear h hs h1 h2 h3 hnn hk hq hc hch hq64
  go_enter Tryz.func11, Tryz.ntmps11
  go_wp2_with fail
  refine Calls.mono HT.out ?_
  rintro e w1 ⟨rfl, rfl⟩
  clear HT
  go_wp2_with fail
  refine Calls.mono HC.out ?_
  rintro e w2 ⟨rfl, S', hL, hT⟩
  have HSm2 : Hid (SaM w2 sb d fb ab (some ⟨fb, k, none⟩) fc ac slot zs k) := HSm.out.keep hT.fr HAp.out.1.1 HAp.out.1.2.1 HAp.out.1.2.2
  have HT2 : Hid (LD w0 w2 d S' t' /\ To S S' w w2) := ⟨hL, hT⟩
  have c1' := HSm2.out.c1
  rw [<- HN.out.1] at c1'
  clear HC hL hT c1 hcell' HSm
  have HR : Hid (StP w0 w d sb fb ab ac slot S zs E t' k (.returned (.int .i64 E)) w2) := ⟨rfl, S', _, _, HT2.out.1, HSm2.out, HT2.out.2.grew, HT2.out.2.fr.mono (fun x hx _ => List.mem_cons_of_mem _ hx)⟩
  have hE : (E != 0) = true := by simpa using hne
  go_wp2
  go_ret
  exact HR.out
theorem zsn {w0 w : World} {d sb fb ab ac slot fc k : Nat} {fo : Option Addr} {S : List Nat} {t : Sk} {zs : List Nat} (h : LD w0 w d S t) (hs : SaM w sb d fb ab fo fc ac slot zs k) (hk : k = nB zs.length + 1) :
    Calls Tryz.prog 11 #[.pointer (some ⟨sb, 0, none⟩)] w fun e w' => StP w0 w d sb fb ab ac slot S zs 9 t k e w' := by
  have c1 := hs.c1
  rw [show nB zs.length + 1 - k = 0 by omega] at c1
  have HT : Hid (Calls _ _ _ _ _) := zcq hs.c0
  have HR : Hid (StP w0 w d sb fb ab ac slot S zs 9 t k (.returned (.int .i64 9)) w) := ⟨rfl, S, fo, fc, h, hs, fun q hq => Or.inl hq, Fr.refl _ _⟩
  clear h hs hk
  go_enter Tryz.func11, Tryz.ntmps11
  go_wp2_with fail
  refine Calls.mono HT.out ?_
  rintro e w1 ⟨rfl, rfl⟩
  clear HT
  go_wp2
  go_ret
  exact HR.out
theorem zvb {w0 w : World} {d sb fb ab ac slot fc k k' : Nat} {fo : Option Addr} {S : List Nat} {t t' : Sk} {E : Int} {zs : List Nat} (h : LD w0 w d S t) (hs : SaM w sb d fb ab fo fc ac slot zs k) (h1 : sb ∉ S) (h2 : fb ∉ S) (h3 : ab ∉ S) (hnw : w0.heap.size <= sb) (hn : t.n < 2^40) (hR : StepR t slot zs k E t' k') :
    Calls Tryz.prog 11 #[.pointer (some ⟨sb, 0, none⟩)] w fun e w' => StP w0 w d sb fb ab ac slot S zs E t' k' e w' := by
  cases hR with
  | idle hk => exact zsn h hs hk
  | clear hk hc he => subst he; exact zof h hs h1 h2 h3 hnw hn hk hc
  | clearNo hk hc he => exact zog h hs h1 h2 h3 hnw hn hk hc he
  | write q hk hq hc he => subst he; exact zoh h hs h1 h2 h3 hnw hn q hk hq hc
  | writeNo q hk hq hc he => exact zoi h hs h1 h2 h3 hnw hn q hk hq hc he
end Go.Proofs.YtembflnhhfliaaaGreatDoor
