/- The newest checkpoint of a disk: contract of Newest. Conditions: a disk that is there. -/
import Derived.Test.YtdojhkgnnbdfkaaGreatRe19
import Derived.Test.YtdojhkgnnbdfkaaGreatPair
namespace Go.Proofs.YtdojhkgnnbdfkaaGreat
open BigFrame Go.ChangeShapes Go.WideShapes Go.ChangeAt Go.RowKit Go.Lib Go.Maps
set_option linter.unusedVariables false
set_option linter.unusedSimpArgs false

theorem results_c4 {fn : Func} {p a b c d : Tmp} {ty : TypeId} (h : fn.results = #[.cell p ty, .tmp a, .tmp b, .tmp c, .tmp d]) (tmps : Array Value) (P : Program) (w : World) (g : Nat) (x : Value) (hp : tmps.getD p undef = .pointer (some ⟨g, 0, none⟩)) (hld : (loadVar ty ⟨g, 0, none⟩).run P w = .ok x w) :
    (results fn tmps).run P w = .ok (.tuple #[x, tmps.getD a undef, tmps.getD b undef, tmps.getD c undef, tmps.getD d undef]) w := by
  simp only [results, h]
  simp [Sem.run_bind, Result.andThen, ← Array.getD_eq_getD_getElem?, hp, asAddr, hld]
/-- What a checkpoint says, in memory of its own. -/
structure SvO (w w' : World) (bo : Option Addr) (Lb cb : Nat) (ho : Option Addr) (Lh ch : Nat) (bs : List Int) (hs : List Hd) : Prop where
  lb : Lb ≤ 65536
  lh : Lh ≤ 65536
  lim : ∀ p ∈ hs.map Hd.kv, limK p
  io : IOw w.heap.size w' bo Lb cb bs
  ho : HOut w w' ho Lh ch hs
theorem SvO.keep {w w1 w2 : World} {bo : Option Addr} {Lb cb : Nat} {ho : Option Addr} {Lh ch : Nat} {bs : List Int} {hs : List Hd} (h : SvO w w1 bo Lb cb ho Lh ch bs hs) (hf : Fr [] w1 w2) : SvO w w2 bo Lb cb ho Lh ch bs hs := ⟨h.lb, h.lh, h.lim, h.io.keepS hf (by simp), h.ho.keep hf⟩
theorem SvO.offS {w w1 w2 : World} {bo : Option Addr} {Lb cb : Nat} {ho : Option Addr} {Lh ch : Nat} {bs : List Int} {hs : List Hd} {sb : Nat} {x y z : Value} (h : SvO w w1 bo Lb cb ho Lh ch bs hs) (hs1 : SB w1 sb x y z) (hf : Fr [sb] w1 w2) : SvO w w2 bo Lb cb ho Lh ch bs hs := ⟨h.lb, h.lh, h.lim, h.io.offS hs1 hf, h.ho.offS hs1 hf⟩
theorem SvO.later {w w1 w2 : World} {bo : Option Addr} {Lb cb : Nat} {ho : Option Addr} {Lh ch : Nat} {bs : List Int} {hs : List Hd} (h : SvO w1 w2 bo Lb cb ho Lh ch bs hs) (hz : w.heap.size ≤ w1.heap.size) : SvO w w2 bo Lb cb ho Lh ch bs hs :=
  ⟨h.lb, h.lh, h.lim, ⟨h.io.len, own_base h.io.row hz⟩, ⟨h.ho.len, own_base h.ho.row hz, fun x hx => (h.ho.each x hx).later hz, h.ho.apart⟩⟩
theorem SvO.nil (w w' : World) : SvO w w' none 0 0 none 0 0 [] [] := ⟨by omega, by omega, by simp, IOw.nil _ _, hout_nil _ _⟩
/-- What Newest answers. -/
def NwP (s0 s1 : List Nat) (w : World) (e : Ending) (w' : World) : Prop := ∃ (ok : Bool) (g i : Nat) (m : Int) (bo : Option Addr) (Lb cb : Nat) (ho : Option Addr) (Lh ch : Nat) (bs : List Int) (hs : List Hd), e = .returned (.tuple #[.agg #[.int .i64 m, .slice bo Lb cb, .slice ho Lh ch], .int .i64 (g : Int), .int .i64 (i : Int), .bool ok, .int .i64 0]) ∧ Nw s0 s1 ok g i m bs (hs.map Hd.kv) ∧ SvO w w' bo Lb cb ho Lh ch bs hs ∧ Fr [] w w'
/-- What was found so far. -/
def Fnd (s0 s1 : List Nat) (i : Nat) (ok : Bool) (g sl : Nat) (m : Int) (bs : List Int) (ps : List Kv) : Prop :=
  (i = 0 ∧ ok = false ∧ g = 0 ∧ sl = 0 ∧ m = 0 ∧ bs = [] ∧ ps = []) ∨ (i = 1 ∧ sl = 0 ∧ Wh s0 ok g m bs ps) ∨ (i = 2 ∧ Nw s0 s1 ok g sl m bs ps)
theorem Fnd.take {s0 s1 : List Nat} {i : Nat} {ok ok' : Bool} {g sl g' : Nat} {m m' : Int} {bs bs' : List Int} {ps ps' : List Kv} (h : Fnd s0 s1 i ok g sl m bs ps) (hi : i < 2) (hW : Wh (if i = 0 then s0 else s1) ok' g' m' bs' ps') (hg : g < g') : Fnd s0 s1 (i + 1) ok' g' i m' bs' ps' := by
  rcases h with ⟨rfl, h⟩ | ⟨rfl, rfl, h⟩ | ⟨rfl, h⟩
  · exact Or.inr (Or.inl ⟨rfl, rfl, by simpa using hW⟩)
  · exact Or.inr (Or.inr ⟨rfl, Or.inr ⟨rfl, by simpa using hW, _, _, _, _, _, h, hg⟩⟩)
  · omega
theorem Fnd.pass {s0 s1 : List Nat} {i : Nat} {ok ok' : Bool} {g sl g' : Nat} {m m' : Int} {bs bs' : List Int} {ps ps' : List Kv} (h : Fnd s0 s1 i ok g sl m bs ps) (hi : i < 2) (hW : Wh (if i = 0 then s0 else s1) ok' g' m' bs' ps') (hg : g' ≤ g) : Fnd s0 s1 (i + 1) ok g sl m bs ps := by
  rcases h with ⟨rfl, rfl, rfl, rfl, rfl, rfl, rfl⟩ | ⟨rfl, rfl, h⟩ | ⟨rfl, h⟩
  · refine Or.inr (Or.inl ⟨rfl, rfl, ?_⟩)
    have h0 : ok' = false := by
      cases ok' with
      | false => rfl
      | true => have := hW.g_ok.1 rfl; omega
    subst h0
    simp only [if_pos] at hW
    rcases hW with ⟨h1, _⟩ | ⟨_, rfl, rfl, rfl, rfl, h6⟩
    · cases h1
    · exact Or.inr ⟨rfl, rfl, rfl, rfl, rfl, h6⟩
  · exact Or.inr (Or.inr ⟨rfl, Or.inl ⟨rfl, h, _, _, _, _, _, by simpa using hW, hg⟩⟩)
  · omega
set_option maxHeartbeats 8000000 in
set_option maxRecDepth 100000 in
theorem newest_any {w0 w : World} {d : Nat} {S : List Nat} {t : Sk} (h : LD w0 w d S t) :
    Calls Tryz.prog 49 #[ptr d] w fun e w' => NwP t.s0 t.s1 w e w' := by
  obtain ⟨w1, HW1⟩ : ∃ w1, Hid (w.alloc (.cells #[.int .i64 0, .slice none 0 0, .slice none 0 0] 27) = w1) := ⟨_, rfl⟩
  have hF1 : Fr [] w w1 := by rw [← HW1.out]; exact Fr.alloc [] w _
  obtain ⟨A, hA⟩ : ∃ A, A = w.heap.size := ⟨_, rfl⟩
  have HS1 : Hid (SB w1 A (.int .i64 0) (.slice none 0 0) (.slice none 0 0)) := ⟨by rw [← HW1.out, hA]; exact svnew w⟩
  have HF1 : Hid (Fr [] w w1 ∧ w.heap.size ≤ A) := ⟨hF1, by omega⟩
  have HD : Hid (∀ W, Fr [] w W → LD w0 W d S t) := fun W hf => h.quiet hf
  have HF0 : Hid (Fnd t.s0 t.s1 0 false 0 0 0 [] ([] : List Kv)) := Or.inl ⟨rfl, rfl, rfl, rfl, rfl, rfl, rfl⟩
  clear h hF1
  go_enter Tryz.func49, Tryz.ntmps49
  go_upto_region 1 with fail
  rw [show (ptr d) = Value.pointer (some ⟨d, 0, none⟩) from rfl]
  rw [HW1.out, ← hA]
  clear HW1 hA
  go_wp2_with fail
  go_loopw [3, 4, 5, 13] (fun gg ss oo ii wr => ∃ (i : Nat) (ok : Bool) (g sl : Nat) (m : Int) (bo : Option Addr) (Lb cb : Nat) (ho : Option Addr) (Lh ch : Nat) (bs : List Int) (hs : List Hd), gg = .int .i64 (g : Int) ∧ ss = .int .i64 (sl : Int) ∧ oo = .bool ok ∧ ii = .int .i64 i ∧ i ≤ 2 ∧ g ≤ 4611686018427387904 ∧ sl ≤ 1 ∧ Hid (Fnd t.s0 t.s1 i ok g sl m bs (hs.map Hd.kv)) ∧ Hid (SB wr A (.int .i64 m) (.slice bo Lb cb) (.slice ho Lh ch)) ∧ Hid (SvO w wr bo Lb cb ho Lh ch bs hs) ∧ Hid (Fr [] w wr)) (fun _ _ _ ii _ => 2 - (RowKit.intOf ii).toNat)
  case atStart => exact ⟨0, false, 0, 0, 0, none, 0, 0, none, 0, 0, [], [], rfl, rfl, rfl, rfl, by omega, by omega, by omega, HF0, HS1, SvO.nil _ _, HF1.out.1⟩
  case round =>
    obtain ⟨i, ok, g, sl, m, bo, Lb, cb, ho, Lh, ch, bs, hs, rfl, rfl, rfl, rfl, hi2, hg62, hsl1, HFd, HSb, HSv, HFr⟩ := hrel
    by_cases hi : i < 2
    · have hlt : (i : Int) < 2 := by omega
      have hTo : ∃ xs, Told t (i : Int) 0 xs ∧ xs = (if i = 0 then t.s0 else t.s1) := by
        by_cases h0 : i = 0
        · exact ⟨t.s0, .slot0 (by omega), by rw [if_pos h0]⟩
        · exact ⟨t.s1, .slot1 (by omega), by rw [if_neg h0]⟩
      obtain ⟨xs, hto, hxs⟩ := hTo
      have HXs : Hid (xs = (if i = 0 then t.s0 else t.s1)) := hxs
      have hok := (HD.out _ HFr.out).ok
      have HXl : Hid (xs.length ≤ 16777216 ∧ ∀ x ∈ xs, x < 256) := ⟨hto.few hok, fun x hx => by
        rw [hxs] at hx
        split at hx
        · exact hok.b0 x hx
        · exact hok.b1 x hx⟩
      have HRd : Hid (Calls _ _ _ _ _) := ld_read (HD.out _ HFr.out) hto
      clear hto hxs hok
      go_wp2_with fail
      refine Calls.mono HRd.out ?_
      rintro e w2 ⟨bo2, n2, cap2, rfl, hfre, hLD⟩
      have HF2 : Hid (Fr [] wr w2) := hfre.fr
      have hB2 : BArg w2 bo2 n2 cap2 xs := own_arg hfre.own HXl.out.2 (by have := hfre.len; have := HXl.out.1; omega)
      have HR2 : Hid (Calls _ _ _ _ _) := sread_any bo2 n2 cap2 xs w2 hB2 (by have := HXl.out.1; omega)
      clear HRd hfre hLD hB2
      go_wp2_with fail
      refine Calls.mono HR2.out ?_
      rintro e w3 ⟨ok', g', m', bo', Lb', cb', ho', Lh', ch', bs', hs', rfl, hW, hlb, hlh, hlim, hio, hho, hF3⟩
      have HW : Hid (Wh (if i = 0 then t.s0 else t.s1) ok' g' m' bs' (hs'.map Hd.kv)) := by rw [← HXs.out]; exact hW
      obtain ⟨w4, HW4⟩ : ∃ w4, Hid (w3.alloc (.cells #[.int .i64 m', .slice bo' Lb' cb', .slice ho' Lh' ch'] 27) = w4) := ⟨_, rfl⟩
      have hF4 : Fr [] w3 w4 := by rw [← HW4.out]; exact Fr.alloc [] w3 _
      obtain ⟨Q, hQ⟩ : ∃ Q, Q = w3.heap.size := ⟨_, rfl⟩
      have hs4 : SB w4 Q (.int .i64 m') (.slice bo' Lb' cb') (.slice ho' Lh' ch') := ⟨by rw [← HW4.out, hQ]; exact heap_alloc_new w3 _⟩
      have HF24 : Hid (Fr [] wr w4) := HF2.out.then (hF3.then hF4)
      have HSv4 : Hid (SvO w w4 bo' Lb' cb' ho' Lh' ch' bs' hs') := by
        have hz : w.heap.size ≤ w2.heap.size := (HFr.out.then HF2.out).size
        exact ((⟨hlb, hlh, hlim, hio, hho⟩ : SvO w2 w3 bo' Lb' cb' ho' Lh' ch' bs' hs').keep hF4).later hz
      have hSb4 := HSb.out.keep HF24.out (by simp)
      have hg62' := hW.g_le
      have j0 := hs4.c0
      have j1 := hs4.c1
      have j2 := hs4.c2
      have a0 := hSb4.c0
      have a1 := hSb4.c1
      have a2 := hSb4.c2
      have b0 := hSb4.fz 0
      have b1 := hSb4.fz 1
      have b2 := hSb4.fz 2
      have HSb4 : Hid (SB w4 A (.int .i64 m) (.slice bo Lb cb) (.slice ho Lh ch)) := hSb4
      clear hW hlb hlh hlim hio hho hF3 hF4 hs4 hSb4 HR2 HF2
      by_cases htk : g < g'
      · have htk' : (g : Int) < (g' : Int) := by omega
        have hok' : ok' = true := HW.out.g_ok.2 (by omega)
        subst hok'
        have HN : Hid (Fnd t.s0 t.s1 (i + 1) true g' i m' bs' (hs'.map Hd.kv)) := HFd.out.take hi HW.out htk
        have HP : Hid (SB (((w4.setCell ⟨A, 0, none⟩ (.int .i64 m')).setCell ⟨A, 1, none⟩ (.slice bo' Lb' cb')).setCell ⟨A, 2, none⟩ (.slice ho' Lh' ch')) A (.int .i64 m') (.slice bo' Lb' cb') (.slice ho' Lh' ch') ∧ SvO w (((w4.setCell ⟨A, 0, none⟩ (.int .i64 m')).setCell ⟨A, 1, none⟩ (.slice bo' Lb' cb')).setCell ⟨A, 2, none⟩ (.slice ho' Lh' ch')) bo' Lb' cb' ho' Lh' ch' bs' hs' ∧ Fr [] w (((w4.setCell ⟨A, 0, none⟩ (.int .i64 m')).setCell ⟨A, 1, none⟩ (.slice bo' Lb' cb')).setCell ⟨A, 2, none⟩ (.slice ho' Lh' ch'))) := by
          obtain ⟨q1, q2⟩ := HSb4.out.fr0 (.int .i64 m') (.slice bo' Lb' cb') (.slice ho' Lh' ch')
          exact ⟨q1, HSv4.out.offS HSb4.out q2, (HFr.out.then HF24.out).on q2 (fun j hj => by have := HF1.out.2; simp at hj; omega)⟩
        go_upto_region 8 with fail
        rw [HW4.out, ← hQ]
        clear HW4 hQ
        go_wp2_with fail
        go_roundw
        case rel => exact ⟨i + 1, true, g', i, m', bo', Lb', cb', ho', Lh', ch', bs', hs', rfl, rfl, rfl, by simp, by omega, hg62', by omega, HN, HP.out.1, HP.out.2.1, HP.out.2.2⟩
        case measure => simp [RowKit.intOf]; omega
      · have htk' : ¬ (g : Int) < (g' : Int) := by omega
        have HN : Hid (Fnd t.s0 t.s1 (i + 1) ok g sl m bs (hs.map Hd.kv)) := HFd.out.pass hi HW.out (by omega)
        have HP : Hid (SvO w w4 bo Lb cb ho Lh ch bs hs ∧ Fr [] w w4) := ⟨HSv.out.keep HF24.out, HFr.out.then HF24.out⟩
        cases ok' with
        | false =>
          go_upto_region 8 with fail
          rw [HW4.out, ← hQ]
          clear HW4 hQ
          go_wp2_with fail
          go_roundw
          case rel => exact ⟨i + 1, ok, g, sl, m, bo, Lb, cb, ho, Lh, ch, bs, hs, rfl, rfl, rfl, by simp, by omega, hg62, hsl1, HN, HSb4, HP.out.1, HP.out.2⟩
          case measure => simp [RowKit.intOf]; omega
        | true =>
          go_upto_region 8 with fail
          rw [HW4.out, ← hQ]
          clear HW4 hQ
          go_wp2_with fail
          go_roundw
          case rel => exact ⟨i + 1, ok, g, sl, m, bo, Lb, cb, ho, Lh, ch, bs, hs, rfl, rfl, rfl, by simp, by omega, hg62, hsl1, HN, HSb4, HP.out.1, HP.out.2⟩
          case measure => simp [RowKit.intOf]; omega
    · have hlt : ¬ (i : Int) < 2 := by omega
      have HN : Hid (Nw t.s0 t.s1 ok g sl m bs (hs.map Hd.kv)) := by
        rcases HFd.out with ⟨q, _⟩ | ⟨q, _⟩ | ⟨_, q⟩
        · omega
        · omega
        · exact q
      have a0 := HSb.out.c0
      have a1 := HSb.out.c1
      have a2 := HSb.out.c2
      have b0 := HSb.out.fz 0
      have b1 := HSb.out.fz 1
      have b2 := HSb.out.fz 2
      have HLd : Hid ((loadVar 27 ⟨A, 0, none⟩).run Tryz.prog (((wr.setCell ⟨A, 0, none⟩ (.int .i64 m)).setCell ⟨A, 1, none⟩ (.slice bo Lb cb)).setCell ⟨A, 2, none⟩ (.slice ho Lh ch)) = .ok (.agg #[.int .i64 m, .slice bo Lb cb, .slice ho Lh ch]) (((wr.setCell ⟨A, 0, none⟩ (.int .i64 m)).setCell ⟨A, 1, none⟩ (.slice bo Lb cb)).setCell ⟨A, 2, none⟩ (.slice ho Lh ch))) := load_sv (HSb.out.fr0 (.int .i64 m) (.slice bo Lb cb) (.slice ho Lh ch)).1.box
      have HR : Hid (NwP t.s0 t.s1 w (.returned (.tuple #[.agg #[.int .i64 m, .slice bo Lb cb, .slice ho Lh ch], .int .i64 (g : Int), .int .i64 (sl : Int), .bool ok, .int .i64 0])) (((wr.setCell ⟨A, 0, none⟩ (.int .i64 m)).setCell ⟨A, 1, none⟩ (.slice bo Lb cb)).setCell ⟨A, 2, none⟩ (.slice ho Lh ch))) := by
        obtain ⟨q1, q2⟩ := HSb.out.fr0 (.int .i64 m) (.slice bo Lb cb) (.slice ho Lh ch)
        exact ⟨ok, g, sl, m, bo, Lb, cb, ho, Lh, ch, bs, hs, rfl, HN.out, HSv.out.offS HSb.out q2, HFr.out.on q2 (fun j hj => by have := HF1.out.2; simp at hj; omega)⟩
      go_wp2
      refine bodyPost_ret (v := .tuple #[.agg #[.int .i64 m, .slice bo Lb cb, .slice ho Lh ch], .int .i64 (g : Int), .int .i64 (sl : Int), .bool ok, .int .i64 0]) (by rw [results_c4 rfl _ _ _ A _ rfl HLd.out]; rfl) rfl ?_
      exact HR.out
end Go.Proofs.YtdojhkgnnbdfkaaGreat
