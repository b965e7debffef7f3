/- Contracts and plain lemmas of this claim. -/
import Derived.Test.YtembflnhhfliaaaGreatDoorGp39
import Derived.Test.YtembflnhhfliaaaGreatDoorGp36
set_option linter.unusedSimpArgs false
set_option linter.unusedVariables false
namespace Go.Proofs.YtembflnhhfliaaaGreatDoor
open Go.ChangeShapes Go.WideShapes Go.ChangeAt Go.RowKit Go.Lib
section
variable {w : World} {p : Value}
end
structure LR (w0 w : World) (g : Nat) (S : List Nat) (t : Sk) : Prop where
  dk : ∃ v0 v1, Rk w g v0 v1 t /\ S = dOwn g v0 v1
  new : ∀ k ∈ S, w0.heap.size <= k
  ok : t.ok
  fr : Fr [] w0 w
section
variable {w0 w w' : World} {g : Nat} {S : List Nat} {t t' : Sk}
theorem LR.lt (h : LR w0 w g S t) : ∀ k ∈ S, k < w.heap.size := by
  obtain ⟨v0, v1, hD, rfl⟩ := h.dk
  exact hD.lt
theorem LR.keepS {T : List Nat} (h : LR w0 w g S t) (hf : Fr T w w') (hT : ∀ k ∈ T, k ∉ S) (hN : ∀ k ∈ T, w0.heap.size <= k) : LR w0 w' g S t := by
  obtain ⟨v0, v1, hD, rfl⟩ := h.dk
  exact ⟨⟨v0, v1, hD.keep hf hT, rfl⟩, h.new, h.ok, h.fr.on hf hN⟩
theorem LR.quiet (h : LR w0 w g S t) (hf : Fr [] w w') : LR w0 w' g S t := h.keepS hf (by simp) (by simp)
theorem LR.step {S' : List Nat} {v0 v1 : Value} (h : LR w0 w g S t) (hT : To S S' w w') (hD : Rk w' g v0 v1 t') (hS : S' = dOwn g v0 v1) (ht : t'.ok) : LR w0 w' g S' t' := by
  refine ⟨⟨v0, v1, hD, hS⟩, ?_, ht, h.fr.on hT.fr h.new⟩
  intro k hk
  rcases hT.grew k hk with h1 | h1
  · exact h.new k h1
  · exact Nat.le_trans h.fr.size h1
theorem LR.apart {bo : Option Addr} {M cb : Nat} {ys : List Nat} (h : LR w0 w g S t) (hB : BArg w0 bo M cb ys) : 0 < M -> ∀ a, bo = some a -> a.block ∉ S := by
  intro h0 a ha hm
  obtain ⟨b, off, e, hb, _⟩ := hB.lies h0
  rw [e] at ha
  cases ha
  have := h.new _ hm
  simp only at this
  omega
theorem zjc {s a E : Int} {bo : Option Addr} {M cb : Nat} {ys : List Nat} (h : LR w0 w g S t) (hn : t.n < 2^40) (ha : a <= 9223372036854775807) (hB : BArg w bo M cb ys) (hap : 0 < M -> ∀ a, bo = some a -> a.block ∉ S) (hc : Wrote t s a ys E t') :
    Calls Tryz.prog 20 #[ptr g, .int .i64 s, .int .i64 a, .slice bo M cb] w fun e w' => e = .returned (.int .i64 E) /\ ∃ S', LR w0 w' g S' t' /\ To S S' w w' := by
  obtain ⟨v0, v1, hD, hS⟩ := h.dk
  refine (zsk hD h.ok hn ha hB (by rw [<- hS]; exact hap) hc).mono ?_
  rintro e w' ⟨rfl, u0, u1, hU, hT⟩
  rw [<- hS] at hT
  exact ⟨rfl, _, h.step hT hU rfl (hc.ok h.ok hB.low), hT⟩
theorem zoe {s E : Int} (h : LR w0 w g S t) (hn : t.n < 2^40) (hc : Cleared t s E t') :
    Calls Tryz.prog 22 #[ptr g, .int .i64 s] w fun e w' => e = .returned (.int .i64 E) /\ ∃ S', LR w0 w' g S' t' /\ To S S' w w' := by
  obtain ⟨v0, v1, hD, hS⟩ := h.dk
  refine (zsj hD h.ok hn hc).mono ?_
  rintro e w' ⟨rfl, u0, u1, hU, hT⟩
  rw [<- hS] at hT
  exact ⟨rfl, _, h.step hT hU rfl (hc.ok h.ok), hT⟩
theorem zyt {s E : Int} {xs : List Nat} (h : LR w0 w g S t) (hc : Told t s E xs) :
    Calls Tryz.prog 37 #[ptr g, .int .i64 s] w fun e w' => ∃ ao n cap, e = .returned (.tuple #[.slice ao n cap, .int .i64 E]) /\ Rs w ao xs /\ n = xs.length /\ w = w' := by
  obtain ⟨v0, v1, hD, hS⟩ := h.dk
  exact zuy hD h.ok hc
theorem zyu (h : LR w0 w g S t) {b : Bool} (hb : t.dd = b) : Calls Tryz.prog 33 #[ptr g] w fun e w' => e = .returned (.bool b) /\ w = w' := by
  obtain ⟨v0, v1, hD, hS⟩ := h.dk
  exact zux hD hb
theorem zuz (h : LR w0 w g S t) {m : Nat} (hm : t.n = m) : Calls Tryz.prog 35 #[ptr g] w fun e w' => e = .returned (.int .i64 (m : Int)) /\ w = w' := by
  obtain ⟨v0, v1, hD, hS⟩ := h.dk
  rw [<- hm]
  exact zpk hD
theorem ziu (h : LR w0 w g S t) {m : Nat} (hm : t.C = m) : Calls Tryz.prog 83 #[ptr g] w fun e w' => e = .returned (.int .i64 (m : Int)) /\ w = w' := by
  obtain ⟨v0, v1, hD, hS⟩ := h.dk
  rw [<- hm]
  exact zmj hD
inductive CutTo (t : Sk) (n : Int) : Int -> Sk -> Prop
  | dead (h : t.dd = true) : CutTo t n 11 t
  | done (h : t.dd = false) : CutTo t n 0 (t.cut n)
theorem CutTo.some (t : Sk) (n : Int) : ∃ E t', CutTo t n E t' := by
  cases h : t.dd with
  | true => exact ⟨_, _, .dead h⟩
  | false => exact ⟨_, _, .done h⟩
theorem CutTo.n {n E : Int} (h : CutTo t n E t') : t'.n <= t.n + 1 := by cases h <;> simp [Sk.cut]
end
structure PR (w0 w : World) (gd gr : Nat) (SD SR : List Nat) (t t2 : Sk) : Prop where
  d : LD w0 w gd SD t
  r : LR w0 w gr SR t2
  ap : ∀ k ∈ SD, k ∉ SR
section
variable {w0 w w' : World} {gd gr : Nat} {SD SR SD' SR' : List Nat} {t t2 t' : Sk}
theorem PR.quiet (h : PR w0 w gd gr SD SR t t2) (hf : Fr [] w w') : PR w0 w' gd gr SD SR t t2 := ⟨h.d.quiet hf, h.r.quiet hf, h.ap⟩
theorem PR.keepS {T : List Nat} (h : PR w0 w gd gr SD SR t t2) (hf : Fr T w w') (hT : ∀ k ∈ T, k ∉ SD /\ k ∉ SR) (hN : ∀ k ∈ T, w0.heap.size <= k) : PR w0 w' gd gr SD SR t t2 :=
  ⟨h.d.keepS hf (fun k hk => (hT k hk).1) hN, h.r.keepS hf (fun k hk => (hT k hk).2) hN, h.ap⟩
theorem PR.stepD (h : PR w0 w gd gr SD SR t t2) (hD : LD w0 w' gd SD' t') (hT : To SD SD' w w') : PR w0 w' gd gr SD' SR t' t2 := by
  refine ⟨hD, h.r.keepS hT.fr h.ap h.d.new, fun k hk hm => ?_⟩
  rcases hT.grew k hk with h1 | h1
  · exact h.ap k h1 hm
  · have := h.r.lt k hm
    omega
theorem PR.stepR (h : PR w0 w gd gr SD SR t t2) (hR : LR w0 w' gr SR' t') (hT : To SR SR' w w') : PR w0 w' gd gr SD SR' t t' := by
  refine ⟨h.d.keepS hT.fr (fun k hk hm => h.ap k hm hk) h.r.new, hR, fun k hk hm => ?_⟩
  rcases hT.grew k hm with h1 | h1
  · exact h.ap k hk h1
  · have := h.d.lt k hk
    omega
theorem To.left {S S' T : List Nat} {a b : World} (h : To S S' a b) : To (S ++ T) (S' ++ T) a b :=
  ⟨h.fr.mono (fun k hk _ => List.mem_append_left _ hk), fun k hk => by
    rcases List.mem_append.1 hk with h1 | h1
    · rcases h.grew k h1 with h2 | h2
      · exact Or.inl (List.mem_append_left _ h2)
      · exact Or.inr h2
    · exact Or.inl (List.mem_append_right _ h1)⟩
theorem To.quiet {S : List Nat} {a b : World} (h : Fr [] a b) : To S S a b := To.same h (by simp)
end
open BigFrame Go.Maps
theorem zcp {fn : Func} {p a b c d : Tmp} {ty : TypeId} (h : fn.results = #[.cell p ty, .tmp a, .tmp b, .tmp c, .tmp d]) (tmps : Array Value) (P : Program) (w : World) (g : Nat) (x : Value) (hp : tmps.getD p undef = .pointer (some ⟨g, 0, none⟩)) (hld : (loadVar ty ⟨g, 0, none⟩).run P w = .ok x w) :
    (results fn tmps).run P w = .ok (.tuple #[x, tmps.getD a undef, tmps.getD b undef, tmps.getD c undef, tmps.getD d undef]) w := by
  simp only [results, h]
  simp [Sem.run_bind, Result.andThen, <- Array.getD_eq_getD_getElem?, hp, asAddr, hld]
structure SvO (w w' : World) (bo : Option Addr) (Lb cb : Nat) (ho : Option Addr) (Lh ch : Nat) (bs : List Int) (hs : List Hd) : Prop where
  lb : Lb <= 65536
  lh : Lh <= 65536
  lim : ∀ p ∈ hs.map Hd.kv, limK p
  io : IOw w.heap.size w' bo Lb cb bs
  ho : HOut w w' ho Lh ch hs
theorem SvO.keep {w w1 w2 : World} {bo : Option Addr} {Lb cb : Nat} {ho : Option Addr} {Lh ch : Nat} {bs : List Int} {hs : List Hd} (h : SvO w w1 bo Lb cb ho Lh ch bs hs) (hf : Fr [] w1 w2) : SvO w w2 bo Lb cb ho Lh ch bs hs := ⟨h.lb, h.lh, h.lim, h.io.keepS hf (by simp), h.ho.keep hf⟩
theorem SvO.offS {w w1 w2 : World} {bo : Option Addr} {Lb cb : Nat} {ho : Option Addr} {Lh ch : Nat} {bs : List Int} {hs : List Hd} {sb : Nat} {x y z : Value} (h : SvO w w1 bo Lb cb ho Lh ch bs hs) (hs1 : SB w1 sb x y z) (hf : Fr [sb] w1 w2) : SvO w w2 bo Lb cb ho Lh ch bs hs := ⟨h.lb, h.lh, h.lim, h.io.offS hs1 hf, h.ho.offS hs1 hf⟩
theorem SvO.later {w w1 w2 : World} {bo : Option Addr} {Lb cb : Nat} {ho : Option Addr} {Lh ch : Nat} {bs : List Int} {hs : List Hd} (h : SvO w1 w2 bo Lb cb ho Lh ch bs hs) (hz : w.heap.size <= w1.heap.size) : SvO w w2 bo Lb cb ho Lh ch bs hs :=
  ⟨h.lb, h.lh, h.lim, ⟨h.io.len, zby h.io.row hz⟩, ⟨h.ho.len, zby h.ho.row hz, fun x hx => (h.ho.each x hx).later hz, h.ho.apart⟩⟩
theorem SvO.nil (w w' : World) : SvO w w' none 0 0 none 0 0 [] [] := ⟨by omega, by omega, by simp, IOw.nil _ _, zob _ _⟩
def NwP (s0 s1 : List Nat) (w : World) (e : Ending) (w' : World) : Prop := ∃ (ok : Bool) (g i : Nat) (m : Int) (bo : Option Addr) (Lb cb : Nat) (ho : Option Addr) (Lh ch : Nat) (bs : List Int) (hs : List Hd), e = .returned (.tuple #[.agg #[.int .i64 m, .slice bo Lb cb, .slice ho Lh ch], .int .i64 (g : Int), .int .i64 (i : Int), .bool ok, .int .i64 0]) /\ Nw s0 s1 ok g i m bs (hs.map Hd.kv) /\ SvO w w' bo Lb cb ho Lh ch bs hs /\ Fr [] w w'
def Fnd (s0 s1 : List Nat) (i : Nat) (ok : Bool) (g sl : Nat) (m : Int) (bs : List Int) (ps : List Kv) : Prop :=
  (i = 0 /\ ok = false /\ g = 0 /\ sl = 0 /\ m = 0 /\ bs = [] /\ ps = []) \/ (i = 1 /\ sl = 0 /\ Wh s0 ok g m bs ps) \/ (i = 2 /\ Nw s0 s1 ok g sl m bs ps)
theorem Fnd.take {s0 s1 : List Nat} {i : Nat} {ok ok' : Bool} {g sl g' : Nat} {m m' : Int} {bs bs' : List Int} {ps ps' : List Kv} (h : Fnd s0 s1 i ok g sl m bs ps) (hi : i < 2) (hW : Wh (if i = 0 then s0 else s1) ok' g' m' bs' ps') (hg : g < g') : Fnd s0 s1 (i + 1) ok' g' i m' bs' ps' := by
  rcases h with ⟨rfl, h⟩ | ⟨rfl, rfl, h⟩ | ⟨rfl, h⟩
  · exact Or.inr (Or.inl ⟨rfl, rfl, by simpa using hW⟩)
  · exact Or.inr (Or.inr ⟨rfl, Or.inr ⟨rfl, by simpa using hW, _, _, _, _, _, h, hg⟩⟩)
  · omega
theorem Fnd.pass {s0 s1 : List Nat} {i : Nat} {ok ok' : Bool} {g sl g' : Nat} {m m' : Int} {bs bs' : List Int} {ps ps' : List Kv} (h : Fnd s0 s1 i ok g sl m bs ps) (hi : i < 2) (hW : Wh (if i = 0 then s0 else s1) ok' g' m' bs' ps') (hg : g' <= g) : Fnd s0 s1 (i + 1) ok g sl m bs ps := by
  rcases h with ⟨rfl, rfl, rfl, rfl, rfl, rfl, rfl⟩ | ⟨rfl, rfl, h⟩ | ⟨rfl, h⟩
  · refine Or.inr (Or.inl ⟨rfl, rfl, ?_⟩)
    have h0 : ok' = false := by
      cases ok' with
      | false => rfl
      | true => have := hW.g_ok.1 rfl; omega
    subst h0
    simp only [if_pos] at hW
    rcases hW with ⟨h1, _⟩ | ⟨_, rfl, rfl, rfl, rfl, h6⟩
    · cases h1
    · exact Or.inr ⟨rfl, rfl, rfl, rfl, rfl, h6⟩
  · exact Or.inr (Or.inr ⟨rfl, Or.inl ⟨rfl, h, _, _, _, _, _, by simpa using hW, hg⟩⟩)
  · omega
set_option maxHeartbeats 8000000 in
set_option maxRecDepth 100000 in
theorem zkj {w0 w : World} {d : Nat} {S : List Nat} {t : Sk} (h : LD w0 w d S t) :
    Calls Tryz.prog 28 #[ptr d] w fun e w' => NwP t.s0 t.s1 w e w' := by
  obtain ⟨w1, HW1⟩ : ∃ w1, Hid (w.alloc (.cells #[.int .i64 0, .slice none 0 0, .slice none 0 0] 57) = w1) := ⟨_, rfl⟩
  have hF1 : Fr [] w w1 := by rw [<- HW1.out]; exact Fr.alloc [] w _
  obtain ⟨A, hA⟩ : ∃ A, A = w.heap.size := ⟨_, rfl⟩
  have HS1 : Hid (SB w1 A (.int .i64 0) (.slice none 0 0) (.slice none 0 0)) := ⟨by rw [<- HW1.out, hA]; exact zml w⟩
  have HF1 : Hid (Fr [] w w1 /\ w.heap.size <= A) := ⟨hF1, by omega⟩
  have HD : Hid (∀ W, Fr [] w W -> LD w0 W d S t) := fun W hf => h.quiet hf
  have HF0 : Hid (Fnd t.s0 t.s1 0 false 0 0 0 [] ([] : List Kv)) := Or.inl ⟨rfl, rfl, rfl, rfl, rfl, rfl, rfl⟩
  clear h hF1
  go_enter Tryz.func28, Tryz.ntmps28
  go_upto_region 1 with fail
  rw [show (ptr d) = Value.pointer (some ⟨d, 0, none⟩) from rfl]
  rw [HW1.out, <- hA]
  clear HW1 hA
  go_wp2_with fail
  go_loopw [3, 4, 5, 13] (fun gg ss oo ii wr => ∃ (i : Nat) (ok : Bool) (g sl : Nat) (m : Int) (bo : Option Addr) (Lb cb : Nat) (ho : Option Addr) (Lh ch : Nat) (bs : List Int) (hs : List Hd), gg = .int .i64 (g : Int) /\ ss = .int .i64 (sl : Int) /\ oo = .bool ok /\ ii = .int .i64 i /\ i <= 2 /\ g <= 4611686018427387904 /\ sl <= 1 /\ Hid (Fnd t.s0 t.s1 i ok g sl m bs (hs.map Hd.kv)) /\ Hid (SB wr A (.int .i64 m) (.slice bo Lb cb) (.slice ho Lh ch)) /\ Hid (SvO w wr bo Lb cb ho Lh ch bs hs) /\ Hid (Fr [] w wr)) (fun _ _ _ ii _ => 2 - (RowKit.intOf ii).toNat)
  case atStart => exact ⟨0, false, 0, 0, 0, none, 0, 0, none, 0, 0, [], [], rfl, rfl, rfl, rfl, by omega, by omega, by omega, HF0, HS1, SvO.nil _ _, HF1.out.1⟩
  case round =>
    obtain ⟨i, ok, g, sl, m, bo, Lb, cb, ho, Lh, ch, bs, hs, rfl, rfl, rfl, rfl, hi2, hg62, hsl1, HFd, HSb, HSv, HFr⟩ := hrel
    by_cases hi : i < 2
    · have hlt : (i : Int) < 2 := by omega
      have hTo : ∃ xs, Told t (i : Int) 0 xs /\ xs = (if i = 0 then t.s0 else t.s1) := by
        by_cases h0 : i = 0
        · exact ⟨t.s0, .slot0 (by omega), by rw [if_pos h0]⟩
        · exact ⟨t.s1, .slot1 (by omega), by rw [if_neg h0]⟩
      obtain ⟨xs, hto, hxs⟩ := hTo
      have HXs : Hid (xs = (if i = 0 then t.s0 else t.s1)) := hxs
      have hok := (HD.out _ HFr.out).ok
      have HXl : Hid (xs.length <= 16777216 /\ ∀ x ∈ xs, x < 256) := ⟨hto.few hok, fun x hx => by
        rw [hxs] at hx
        split at hx
        · exact hok.b0 x hx
        · exact hok.b1 x hx⟩
      have HRd : Hid (Calls _ _ _ _ _) := zqh (HD.out _ HFr.out) hto
      clear hto hxs hok
      go_wp2_with fail
      refine Calls.mono HRd.out ?_
      rintro e w2 ⟨bo2, n2, cap2, rfl, hfre, hLD⟩
      have HF2 : Hid (Fr [] wr w2) := hfre.fr
      have hB2 : BArg w2 bo2 n2 cap2 xs := zbr hfre.own HXl.out.2 (by have := hfre.len; have := HXl.out.1; omega)
      have HR2 : Hid (Calls _ _ _ _ _) := zut bo2 n2 cap2 xs w2 hB2 (by have := HXl.out.1; omega)
      clear HRd hfre hLD hB2
      go_wp2_with fail
      refine Calls.mono HR2.out ?_
      rintro e w3 ⟨ok', g', m', bo', Lb', cb', ho', Lh', ch', bs', hs', rfl, hW, hlb, hlh, hlim, hio, hho, hF3⟩
      have HW : Hid (Wh (if i = 0 then t.s0 else t.s1) ok' g' m' bs' (hs'.map Hd.kv)) := by rw [<- HXs.out]; exact hW
      obtain ⟨w4, HW4⟩ : ∃ w4, Hid (w3.alloc (.cells #[.int .i64 m', .slice bo' Lb' cb', .slice ho' Lh' ch'] 57) = w4) := ⟨_, rfl⟩
      have hF4 : Fr [] w3 w4 := by rw [<- HW4.out]; exact Fr.alloc [] w3 _
      obtain ⟨Q, hQ⟩ : ∃ Q, Q = w3.heap.size := ⟨_, rfl⟩
      have hs4 : SB w4 Q (.int .i64 m') (.slice bo' Lb' cb') (.slice ho' Lh' ch') := ⟨by rw [<- HW4.out, hQ]; exact heap_alloc_new w3 _⟩
      have HF24 : Hid (Fr [] wr w4) := HF2.out.then (hF3.then hF4)
      have HSv4 : Hid (SvO w w4 bo' Lb' cb' ho' Lh' ch' bs' hs') := by
        have hz : w.heap.size <= w2.heap.size := (HFr.out.then HF2.out).size
        exact ((⟨hlb, hlh, hlim, hio, hho⟩ : SvO w2 w3 bo' Lb' cb' ho' Lh' ch' bs' hs').keep hF4).later hz
      have hSb4 := HSb.out.keep HF24.out (by simp)
      have hg62' := hW.g_le
      have j0 := hs4.c0
      have j1 := hs4.c1
      have j2 := hs4.c2
      have a0 := hSb4.c0
      have a1 := hSb4.c1
      have a2 := hSb4.c2
      have b0 := hSb4.fz 0
      have b1 := hSb4.fz 1
      have b2 := hSb4.fz 2
      have HSb4 : Hid (SB w4 A (.int .i64 m) (.slice bo Lb cb) (.slice ho Lh ch)) := hSb4
      clear hW hlb hlh hlim hio hho hF3 hF4 hs4 hSb4 HR2 HF2
      by_cases htk : g < g'
      · have htk' : (g : Int) < (g' : Int) := by omega
        have hok' : ok' = true := HW.out.g_ok.2 (by omega)
        subst hok'
        have HN : Hid (Fnd t.s0 t.s1 (i + 1) true g' i m' bs' (hs'.map Hd.kv)) := HFd.out.take hi HW.out htk
        have HP : Hid (SB (((w4.setCell ⟨A, 0, none⟩ (.int .i64 m')).setCell ⟨A, 1, none⟩ (.slice bo' Lb' cb')).setCell ⟨A, 2, none⟩ (.slice ho' Lh' ch')) A (.int .i64 m') (.slice bo' Lb' cb') (.slice ho' Lh' ch') /\ SvO w (((w4.setCell ⟨A, 0, none⟩ (.int .i64 m')).setCell ⟨A, 1, none⟩ (.slice bo' Lb' cb')).setCell ⟨A, 2, none⟩ (.slice ho' Lh' ch')) bo' Lb' cb' ho' Lh' ch' bs' hs' /\ Fr [] w (((w4.setCell ⟨A, 0, none⟩ (.int .i64 m')).setCell ⟨A, 1, none⟩ (.slice bo' Lb' cb')).setCell ⟨A, 2, none⟩ (.slice ho' Lh' ch'))) := by
          obtain ⟨q1, q2⟩ := HSb4.out.fr0 (.int .i64 m') (.slice bo' Lb' cb') (.slice ho' Lh' ch')
          exact ⟨q1, HSv4.out.offS HSb4.out q2, (HFr.out.then HF24.out).on q2 (fun j hj => by have := HF1.out.2; simp at hj; omega)⟩
        go_upto_region 8 with fail
        rw [HW4.out, <- hQ]
        clear HW4 hQ
        go_wp2_with fail
        go_roundw
        case rel => exact ⟨i + 1, true, g', i, m', bo', Lb', cb', ho', Lh', ch', bs', hs', rfl, rfl, rfl, by simp, by omega, hg62', by omega, HN, HP.out.1, HP.out.2.1, HP.out.2.2⟩
        case measure => simp [RowKit.intOf]; omega
      · have htk' : ¬ (g : Int) < (g' : Int) := by omega
        have HN : Hid (Fnd t.s0 t.s1 (i + 1) ok g sl m bs (hs.map Hd.kv)) := HFd.out.pass hi HW.out (by omega)
        have HP : Hid (SvO w w4 bo Lb cb ho Lh ch bs hs /\ Fr [] w w4) := ⟨HSv.out.keep HF24.out, HFr.out.then HF24.out⟩
        cases ok' with
        | false =>
          go_upto_region 8 with fail
          rw [HW4.out, <- hQ]
          clear HW4 hQ
          go_wp2_with fail
          go_roundw
          case rel => exact ⟨i + 1, ok, g, sl, m, bo, Lb, cb, ho, Lh, ch, bs, hs, rfl, rfl, rfl, by simp, by omega, hg62, hsl1, HN, HSb4, HP.out.1, HP.out.2⟩
          case measure => simp [RowKit.intOf]; omega
        | true =>
          go_upto_region 8 with fail
          rw [HW4.out, <- hQ]
          clear HW4 hQ
          go_wp2_with fail
          go_roundw
          case rel => exact ⟨i + 1, ok, g, sl, m, bo, Lb, cb, ho, Lh, ch, bs, hs, rfl, rfl, rfl, by simp, by omega, hg62, hsl1, HN, HSb4, HP.out.1, HP.out.2⟩
          case measure => simp [RowKit.intOf]; omega
    · have hlt : ¬ (i : Int) < 2 := by omega
      have HN : Hid (Nw t.s0 t.s1 ok g sl m bs (hs.map Hd.kv)) := by
        rcases HFd.out with ⟨q, _⟩ | ⟨q, _⟩ | ⟨_, q⟩
        · omega
        · omega
        · exact q
      have a0 := HSb.out.c0
      have a1 := HSb.out.c1
      have a2 := HSb.out.c2
      have b0 := HSb.out.fz 0
      have b1 := HSb.out.fz 1
      have b2 := HSb.out.fz 2
      have HLd : Hid ((loadVar 57 ⟨A, 0, none⟩).run Tryz.prog (((wr.setCell ⟨A, 0, none⟩ (.int .i64 m)).setCell ⟨A, 1, none⟩ (.slice bo Lb cb)).setCell ⟨A, 2, none⟩ (.slice ho Lh ch)) = .ok (.agg #[.int .i64 m, .slice bo Lb cb, .slice ho Lh ch]) (((wr.setCell ⟨A, 0, none⟩ (.int .i64 m)).setCell ⟨A, 1, none⟩ (.slice bo Lb cb)).setCell ⟨A, 2, none⟩ (.slice ho Lh ch))) := zek (HSb.out.fr0 (.int .i64 m) (.slice bo Lb cb) (.slice ho Lh ch)).1.box
      have HR : Hid (NwP t.s0 t.s1 w (.returned (.tuple #[.agg #[.int .i64 m, .slice bo Lb cb, .slice ho Lh ch], .int .i64 (g : Int), .int .i64 (sl : Int), .bool ok, .int .i64 0])) (((wr.setCell ⟨A, 0, none⟩ (.int .i64 m)).setCell ⟨A, 1, none⟩ (.slice bo Lb cb)).setCell ⟨A, 2, none⟩ (.slice ho Lh ch))) := by
        obtain ⟨q1, q2⟩ := HSb.out.fr0 (.int .i64 m) (.slice bo Lb cb) (.slice ho Lh ch)
        exact ⟨ok, g, sl, m, bo, Lb, cb, ho, Lh, ch, bs, hs, rfl, HN.out, HSv.out.offS HSb.out q2, HFr.out.on q2 (fun j hj => by have := HF1.out.2; simp at hj; omega)⟩
      go_wp2
      refine bodyPost_ret (v := .tuple #[.agg #[.int .i64 m, .slice bo Lb cb, .slice ho Lh ch], .int .i64 (g : Int), .int .i64 (sl : Int), .bool ok, .int .i64 0]) (by rw [zcp rfl _ _ _ A _ rfl HLd.out]; rfl) rfl ?_
      exact HR.out
def nB (n : Nat) : Nat := (n + 63) / 64
def chunk (zs : List Nat) (k : Nat) : List Nat := (zs.drop (64 * k)).take (min (64 * k + 64) zs.length - 64 * k)
theorem zig {n k : Nat} (h : k < nB n) : 64 * k < n := by unfold nB at h; omega
theorem zaah {n k : Nat} (h : 64 * k < n) : k < nB n := by unfold nB; omega
theorem zaai {n k : Nat} (h : n <= 64 * k) : nB n <= k := by unfold nB; omega
theorem zet {n : Nat} (h : n <= 16777216) : nB n <= 262144 := by unfold nB; omega
def zgk (d slot b cap n k : Nat) : Value := .func (.func 131) #[.agg #[.pointer (some ⟨d, 0, none⟩), .int .i64 (slot : Int), .int .i64 ((64 * k : Nat) : Int), .slice (some ⟨b, 64 * k, none⟩) (min (64 * k + 64) n - 64 * k) (cap - 64 * k)]] #[]
def zkk (d slot : Nat) : Value := .func (.func 130) #[.agg #[.pointer (some ⟨d, 0, none⟩), .int .i64 (slot : Int), .int .i64 0, .slice none 0 0]] #[]
def zbn (d slot b cap n m : Nat) : List Value := zkk d slot :: (List.range m).map (zgk d slot b cap n)
theorem zhu (d slot b cap n m : Nat) : (zbn d slot b cap n m).length = m + 1 := by simp [zbn]
theorem zsl (d slot b cap n m : Nat) : zbn d slot b cap n (m + 1) = zbn d slot b cap n m ++ [zgk d slot b cap n m] := by simp [zbn, List.range_succ]
theorem zkl (d slot b cap n m : Nat) : (zbn d slot b cap n m)[0]? = some (zkk d slot) := by simp [zbn]
theorem zly (d slot b cap n m k : Nat) (h : k < m) : (zbn d slot b cap n m)[k + 1]? = some (zgk d slot b cap n k) := by simp [zbn, h]
structure SaM (w : World) (sb d fb ab : Nat) (fo : Option Addr) (fc ac slot : Nat) (zs : List Nat) (k : Nat) : Prop where
  box : w.heap[sb]? = some (.cells #[.bool true, .slice fo (nB zs.length + 1 - k) fc] 38 (0, 0))
  kle : k <= nB zs.length + 1
  row : ∃ cs : Array Value, w.heap[fb]? = some (.cells cs 63 (0, 0)) /\ ∀ (j : Nat) (v : Value), (zbn d slot ab ac zs.length (nB zs.length))[j]? = some v -> cs[j]? = some v
  at_ : k <= nB zs.length -> fo = some ⟨fb, k, none⟩
  cap : nB zs.length + 1 - k <= fc
  byt : w.ownsRow 0 5 1 (.slice (some ⟨ab, 0, none⟩) zs.length ac) zs.length (bts zs)
  low : ∀ x ∈ zs, x < 256
  few : zs.length <= 16777216
  sl : slot <= 1
theorem SaM.keep {S : List Nat} {w w' : World} {sb d fb ab : Nat} {fo : Option Addr} {fc ac slot : Nat} {zs : List Nat} {k : Nat} (h : SaM w sb d fb ab fo fc ac slot zs k) (hf : Fr S w w') (h1 : sb ∉ S) (h2 : fb ∉ S) (h3 : ab ∉ S) : SaM w' sb d fb ab fo fc ac slot zs k := by
  obtain ⟨cs, hb, hc⟩ := h.row
  exact ⟨hf.keep h.box h1, h.kle, ⟨cs, hf.keep hb h2, hc⟩, h.at_, h.cap, zab h.byt hf (fun q hq => by simp [Value.ownBlock] at hq; subst hq; exact h3), h.low, h.few, h.sl⟩
theorem SaM.blocks {w : World} {sb d fb ab : Nat} {fo : Option Addr} {fc ac slot : Nat} {zs : List Nat} {k : Nat} (h : SaM w sb d fb ab fo fc ac slot zs k) : sb < w.heap.size /\ fb < w.heap.size /\ ab < w.heap.size /\ sb ≠ fb /\ sb ≠ ab /\ fb ≠ ab := by
  obtain ⟨cs, hb, _⟩ := h.row
  obtain ⟨ca, ha⟩ := zaf h.byt ab rfl
  refine ⟨lt_of_block h.box, lt_of_block hb, lt_of_block ha, ?_, ?_, ?_⟩
  · rintro rfl; rw [h.box] at hb; simp at hb
  · rintro rfl; rw [h.box] at ha; simp at ha
  · rintro rfl; rw [hb] at ha; simp at ha
theorem SaM.c0 {w : World} {sb d fb ab : Nat} {fo : Option Addr} {fc ac slot : Nat} {zs : List Nat} {k : Nat} (h : SaM w sb d fb ab fo fc ac slot zs k) : w.cell? ⟨sb, 0, none⟩ = some (.bool true) := by rw [cell_of_row _ _ _ _ _ _ h.box]; rfl
theorem SaM.c1 {w : World} {sb d fb ab : Nat} {fo : Option Addr} {fc ac slot : Nat} {zs : List Nat} {k : Nat} (h : SaM w sb d fb ab fo fc ac slot zs k) : w.cell? ⟨sb, 1, none⟩ = some (.slice fo (nB zs.length + 1 - k) fc) := by rw [cell_of_row _ _ _ _ _ _ h.box]; rfl
theorem SaM.f1 {w : World} {sb d fb ab : Nat} {fo : Option Addr} {fc ac slot : Nat} {zs : List Nat} {k : Nat} (h : SaM w sb d fb ab fo fc ac slot zs k) : w.frozen? ⟨sb, 1, none⟩ = false := by simp [World.frozen?, h.box]
theorem SaM.raw {w : World} {sb d fb ab : Nat} {fo : Option Addr} {fc ac slot : Nat} {zs : List Nat} {k : Nat} (h : SaM w sb d fb ab fo fc ac slot zs k) (hk : k <= nB zs.length) : fo = some ⟨fb, k, none⟩ /\ w.cell? ⟨fb, k, none⟩ = (zbn d slot ab ac zs.length (nB zs.length))[k]? := by
  obtain ⟨cs, hb, hc⟩ := h.row
  refine ⟨h.at_ hk, ?_⟩
  have hl : k < (zbn d slot ab ac zs.length (nB zs.length)).length := by rw [zhu]; omega
  rw [cell_of_row _ _ _ _ _ _ hb, List.getElem?_eq_getElem hl, hc k _ (List.getElem?_eq_getElem hl)]
theorem SaM.step {w : World} {sb d fb ab : Nat} {fo : Option Addr} {fc ac slot : Nat} {zs : List Nat} {k : Nat} (h : SaM w sb d fb ab fo fc ac slot zs k) (hk : k <= nB zs.length) : SaM (w.setCell ⟨sb, 1, none⟩ (.slice (zav fo fc 1) (nB zs.length + 1 - k - 1) (fc - 1))) sb d fb ab (zav fo fc 1) (fc - 1) ac slot zs (k + 1) /\ Fr [sb] w (w.setCell ⟨sb, 1, none⟩ (.slice (zav fo fc 1) (nB zs.length + 1 - k - 1) (fc - 1))) := by
  have hf : Fr [sb] w (w.setCell ⟨sb, 1, none⟩ (.slice (zav fo fc 1) (nB zs.length + 1 - k - 1) (fc - 1))) := Fr.set _ _ _ (by simp)
  obtain ⟨_, _, _, n1, n2, _⟩ := h.blocks
  obtain ⟨cs, hb, hc⟩ := h.row
  have hcap := h.cap
  refine ⟨⟨?_, by omega, ⟨cs, hf.keep hb (by simp; omega), hc⟩, fun hk1 => ?_, by omega, zab h.byt hf (fun q hq => by simp [Value.ownBlock] at hq; subst hq; simp; omega), h.low, h.few, h.sl⟩, hf⟩
  · rw [zae _ h.box, show nB zs.length + 1 - k - 1 = nB zs.length + 1 - (k + 1) by omega]
    rfl
  · rw [h.at_ hk]
    unfold zav
    rw [if_neg (by omega)]
    simp [Addr.add]
theorem SaM.chunk {w : World} {sb d fb ab : Nat} {fo : Option Addr} {fc ac slot : Nat} {zs : List Nat} {k : Nat} (h : SaM w sb d fb ab fo fc ac slot zs k) (q : Nat) (hq : q < nB zs.length) : BArg w (some ⟨ab, 64 * q, none⟩) (min (64 * q + 64) zs.length - 64 * q) (ac - 64 * q) (chunk zs q) := by
  have hA : BArg w (some ⟨ab, 0, none⟩) zs.length ac zs := zbr h.byt h.low (by have := h.few; omega)
  have h1 := zig hq
  have h2 := hA.cut (64 * q) (min (64 * q + 64) zs.length) (by omega) (by omega)
  have h3 := hA.fits
  rw [show zav (some ⟨ab, 0, none⟩) ac (64 * q) = some ⟨ab, 64 * q, none⟩ from by unfold zav; rw [if_neg (by omega)]; simp [Addr.add_lit]] at h2
  exact h2
inductive StepR (t : Sk) (slot : Nat) (zs : List Nat) (k : Nat) : Int -> Sk -> Nat -> Prop
  | idle (h : k = nB zs.length + 1) : StepR t slot zs k 9 t k
  | clear (h : k = 0) {E : Int} {t' : Sk} (hc : Cleared t (slot : Int) E t') (he : E = 0) : StepR t slot zs k E t' (k + 1)
  | clearNo (h : k = 0) {E : Int} {t' : Sk} (hc : Cleared t (slot : Int) E t') (he : E ≠ 0) : StepR t slot zs k E t' k
  | write (q : Nat) (h : k = q + 1) (hq : q < nB zs.length) {E : Int} {t' : Sk} (hc : Wrote t (slot : Int) ((64 * q : Nat) : Int) (chunk zs q) E t') (he : E = 0) : StepR t slot zs k E t' (k + 1)
  | writeNo (q : Nat) (h : k = q + 1) (hq : q < nB zs.length) {E : Int} {t' : Sk} (hc : Wrote t (slot : Int) ((64 * q : Nat) : Int) (chunk zs q) E t') (he : E ≠ 0) : StepR t slot zs k E t' k
theorem StepR.some (t : Sk) (slot : Nat) (zs : List Nat) (k : Nat) (hk : k <= nB zs.length + 1) : ∃ E t' k', StepR t slot zs k E t' k' := by
  by_cases h1 : k = nB zs.length + 1
  · exact ⟨_, _, _, .idle h1⟩
  · by_cases h0 : k = 0
    · obtain ⟨E, t', hc⟩ := Cleared.some t (slot : Int)
      by_cases he : E = 0
      · exact ⟨_, _, _, .clear h0 hc he⟩
      · exact ⟨_, _, _, .clearNo h0 hc he⟩
    · obtain ⟨q, rfl⟩ : ∃ q, k = q + 1 := ⟨k - 1, by omega⟩
      obtain ⟨E, t', hc⟩ := Wrote.some t (slot : Int) ((64 * q : Nat) : Int) (chunk zs q)
      by_cases he : E = 0
      · exact ⟨_, _, _, .write q rfl (by omega) hc he⟩
      · exact ⟨_, _, _, .writeNo q rfl (by omega) hc he⟩
theorem StepR.n {t t' : Sk} {slot : Nat} {zs : List Nat} {k k' : Nat} {E : Int} (h : StepR t slot zs k E t' k') : t'.n <= t.n + 1 := by
  cases h with
  | idle _ => omega
  | clear _ hc _ => exact hc.n
  | clearNo _ hc _ => exact hc.n
  | write _ _ _ hc _ => exact hc.n
  | writeNo _ _ _ hc _ => exact hc.n
end Go.Proofs.YtembflnhhfliaaaGreatDoor
