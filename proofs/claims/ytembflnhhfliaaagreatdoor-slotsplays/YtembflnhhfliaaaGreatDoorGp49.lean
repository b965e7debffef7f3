/- Contracts and plain lemmas of this claim. -/
import Derived.Test.YtembflnhhfliaaaGreatDoorGp48
set_option linter.unusedSimpArgs false
set_option linter.unusedVariables false
set_option maxHeartbeats 2000000
namespace Go.Proofs.YtembflnhhfliaaaGreatDoor.Bq
open Go.ChangeShapes Go.WideShapes Go.ChangeAt Go.RowKit Go.Lib
end Go.Proofs.YtembflnhhfliaaaGreatDoor.Bq
namespace Go.Proofs.YtembflnhhfliaaaGreatDoor
open BigFrame Go.ChangeShapes Go.WideShapes Go.ChangeAt Go.RowKit Go.Lib Go.Maps
theorem zaaz (C : Nat) (w : World) (h : C <= 16777216) : Calls Tryz.prog 7 #[.int .i64 (C : Int)] w fun e w' => e = .returned (.tuple #[ptr w.heap.size, .int .i64 0]) /\ Rk w' w.heap.size (.slice none 0 0) (.slice none 0 0) (Sk.new C) /\ Fr [] w w' := by
  have h0 : (0 : Int) <= C := by omega
  have h1 : (C : Int) <= 16777216 := by omega
  go_enter Tryz.func7, Tryz.ntmps7
  go_wp2
  go_ret2
  exact ⟨rfl, ⟨heap_alloc_new w _, zbh _, zbh _, by intro k hk; simp [Value.ownBlock] at hk⟩, Fr.alloc _ _ _⟩
theorem zace (C : Nat) (w0 w : World) (hf : Fr [] w0 w) (h : C <= 16777216) : Calls Tryz.prog 7 #[.int .i64 (C : Int)] w fun e w' => ∃ g S, e = .returned (.tuple #[ptr g, .int .i64 0]) /\ LR w0 w' g S (Sk.new C) /\ (∀ k ∈ S, w.heap.size <= k) /\ Fr [] w w' := by
  refine (zaaz C w h).mono ?_
  rintro e w' ⟨rfl, hD, hF⟩
  have hS : ∀ k ∈ dOwn w.heap.size (.slice none 0 0) (.slice none 0 0), w.heap.size <= k := by
    intro k hk
    rcases mem_dOwn.1 hk with rfl | hk | hk
    · exact Nat.le_refl _
    · simp [Value.ownBlock] at hk
    · simp [Value.ownBlock] at hk
  exact ⟨_, _, rfl, ⟨⟨_, _, hD, rfl⟩, fun k hk => Nat.le_trans hf.size (hS k hk), Sk.new_ok C h, hf.then hF⟩, hS, hF⟩
theorem zox {w0 w : World} {pb gd gr : Nat} {SD SR SS : List Nat} {t : Sk} {vs vt : Value} (h : Ts w0 w pb gd gr SD SR t vs vt SS) (m slot at_ n : Int) (bo ho yo : Option Addr) (Lb cb Lh ch M yc : Nat) (bs : List Int) (hs : List Hd) (hI : IRs w0 bo bs) (hLb : Lb = bs.length) (hH : HRs w0 ho hs) (hLh : Lh = hs.length) (hz : bs.length + szKs (hs.map Hd.kv) <= 1048576) (htab : Bq.Tab w0) :
    Calls Tryz.prog 8 #[.pointer (some ⟨pb, 0, none⟩), .agg #[.int .u8 1, .int .i64 m, .slice bo Lb cb, .slice ho Lh ch, .int .i64 slot, .int .i64 at_, .slice yo M yc, .int .i64 n]] w fun e w' => DoP w0 pb gd gr SD SR SS t w e w' := by
  obtain ⟨ok, g, i, mN, bN, pN, hN⟩ := Nw.ex t.s0 t.s1
  obtain ⟨c, ys, hT⟩ := ToldD.ex m bs (hs.map Hd.kv)
  by_cases hE : newE t.C g c ys.length = 0
  · exact zqe h m slot at_ n bo ho yo Lb cb Lh ch M yc bs hs c ys hN hI hLb hH hLh hz hT htab hE
  · exact zqd h m slot at_ n bo ho yo Lb cb Lh ch M yc bs hs c ys hN hI hLb hH hLh hz hT htab hE
theorem SvO.dts {w W : World} {bo ho : Option Addr} {Lb cb Lh ch : Nat} {bs : List Int} {hs : List Hd} (h : SvO w W bo Lb cb ho Lh ch bs hs) : Bq.Dts W ho Lh ch (dsOf hs) := h.ho.dts (fun x hx => by have := (h.lim _ (List.mem_map.2 ⟨x, hx, rfl⟩)).2.1; simp only [Hd.kv] at this; omega) (by have := h.lh; omega)
theorem zlk (w : World) : IRs w none [] := ⟨fun h => by simp at h, by simp⟩
theorem zll (w : World) : HRs w none [] := ⟨fun h => by simp at h, by simp, by simp⟩
def Kn (w0 : World) (bk n : Nat) (w : World) (B : List Nat) : Prop := ∃ T rI rW rT hI hW hT, Bq.B4 w0 w bk T (.slice none 0 0) rI rW rT [] hI hW hT /\ T <= 65538 * n /\ B = Bq.kbs bk (.slice none 0 0) rI rW rT [] hI hW hT
theorem Kn.keep {w0 w w' : World} {bk n : Nat} {B S : List Nat} (h : Kn w0 bk n w B) (hf : Fr S w w') (hS : ∀ q ∈ B, q ∉ S) : Kn w0 bk n w' B := by
  obtain ⟨T, rI, rW, rT, hI, hW, hT, h1, h2, rfl⟩ := h
  exact ⟨T, rI, rW, rT, hI, hW, hT, h1.keepN hf hS, h2, rfl⟩
theorem Kn.lt {w0 w : World} {bk n : Nat} {B : List Nat} (h : Kn w0 bk n w B) : ∀ q ∈ B, q < w.heap.size := by
  obtain ⟨T, rI, rW, rT, hI, hW, hT, h1, h2, rfl⟩ := h
  exact h1.lt
theorem Kn.new {w0 w : World} {bk : Nat} (hb : w.heap[bk]? = some (.cells Bq.newBk 52 (0, 0))) (hw0 : w0.heap.size <= bk) : Kn w0 bk 0 w [bk] :=
  ⟨0, _, _, _, _, _, _, Bq.B4.new hb hw0, by omega, by simp [Bq.kbs, Bq.own4, Bq.lbs, Value.ownBlock]⟩
theorem Kn.tell {w0 wL W : World} {bk n : Nat} {B : List Nat} (hk : Kn w0 bk n wL B) (hn : n <= 100) (m : Int) (bo : Option Addr) (Lb cb : Nat) (ho : Option Addr) (Lh ch : Nat) (bs : List Int) (hs : List Hd) (hf : Fr [] wL W) (h : SvO wL W bo Lb cb ho Lh ch bs hs) :
    Calls Tryz.prog 18 #[.pointer (some ⟨bk, 0, none⟩), .agg #[.int .i64 m, .slice bo Lb cb, .slice ho Lh ch]] W fun e w' => e = .returned (.tuple #[]) /\ ∃ B', Kn w0 bk (n + 1) w' B' /\ Fr B W w' /\ ∀ q ∈ B', q ∈ B \/ wL.heap.size <= q := by
  have hlt := hk.lt
  obtain ⟨T, rI, rW, rT, hI, hW, hT, h1, h2, rfl⟩ := hk
  have hlb := h.lb
  have hlh := h.lh
  have hnv : ∀ x ∈ hs, ∀ k, (Value.slice x.vo x.L x.cap).ownBlock = some k -> wL.heap.size <= k := fun x hx k hk => by
    obtain ⟨a, ha, e1⟩ := zhp hk
    have := ((h.ho.each x hx).block a ha).1
    omega
  refine (Bq.saved_tell (h1.keep hf) m _ _ Lb cb Lh ch _ ⟨Lb, ints bs, Bq.Cut.of (Bq.own_base8 h.io.row), by omega⟩ (fun k hk hm => ?_) h.dts (fun i d hd k hk hm => ?_) (fun k hk hm => ?_) (by omega)).mono ?_
  · have a := (zah h.io.row hk).1
    have b := hlt k (Bq.mem_kbs.2 (Or.inr (Or.inr (Or.inl (Or.inr hm)))))
    omega
  · obtain ⟨x, hx, rfl⟩ := zcg hd
    have a := hnv x (List.mem_of_getElem? hx) k hk
    have b := hlt k (Bq.mem_kbs.2 (Or.inr (Or.inr (Or.inr (Or.inr (Or.inr hm))))))
    omega
  · have a := (zah h.ho.row hk).1
    have b := hlt k (Bq.mem_kbs.2 (Or.inr (Or.inr (Or.inr (Or.inl (Or.inr hm))))))
    omega
  rintro e w' ⟨rfl, rI', rT', rW', hB1, hF1, hM1, hM2, hM3⟩
  refine ⟨rfl, _, ⟨_, rI', rW', rT', _, _, _, hB1, by omega, rfl⟩, hF1.mono (fun x hx _ => ?_), fun q hq => ?_⟩
  · rcases List.mem_cons.1 hx with p | p
    · exact Bq.mem_kbs.2 (Or.inl p)
    · rcases List.mem_append.1 p with p | p
      · exact Bq.mem_kbs.2 (Or.inr (Or.inr (Or.inl (Or.inl (by simpa using p)))))
      · rcases List.mem_append.1 p with p | p
        · exact Bq.mem_kbs.2 (Or.inr (Or.inr (Or.inr (Or.inr (Or.inl (by simpa using p))))))
        · exact Bq.mem_kbs.2 (Or.inr (Or.inr (Or.inr (Or.inl (Or.inl (by simpa using p))))))
  · have hsz := hf.size
    rcases Bq.mem_kbs.1 hq with p | (p | p) | (p | p) | (p | p) | (p | p)
    · exact Or.inl (Bq.mem_kbs.2 (Or.inl p))
    · simp [Value.ownBlock] at p
    · simp [Bq.lbs] at p
    · rcases Bq.moved_of hM1 p with r | r
      · exact Or.inl (Bq.mem_kbs.2 (Or.inr (Or.inr (Or.inl (Or.inl r)))))
      · exact Or.inr (by omega)
    · rcases Bq.lbs_snoc p with p2 | p2
      · exact Or.inl (Bq.mem_kbs.2 (Or.inr (Or.inr (Or.inl (Or.inr p2)))))
      · exact Or.inr (zah h.io.row p2).1
    · rcases Bq.moved_of hM3 p with r | r
      · exact Or.inl (Bq.mem_kbs.2 (Or.inr (Or.inr (Or.inr (Or.inl (Or.inl r))))))
      · exact Or.inr (by omega)
    · rcases Bq.lbs_snoc p with p2 | p2
      · exact Or.inl (Bq.mem_kbs.2 (Or.inr (Or.inr (Or.inr (Or.inl (Or.inr p2))))))
      · exact Or.inr (zah h.ho.row p2).1
    · rcases Bq.moved_of hM2 p with r | r
      · exact Or.inl (Bq.mem_kbs.2 (Or.inr (Or.inr (Or.inr (Or.inr (Or.inl r))))))
      · exact Or.inr (by omega)
    · rw [Bq.lbs_append] at p
      rcases List.mem_append.1 p with p | p
      · exact Or.inl (Bq.mem_kbs.2 (Or.inr (Or.inr (Or.inr (Or.inr (Or.inr p))))))
      · obtain ⟨i, d, hdd, hk⟩ := Bq.mem_held p
        obtain ⟨x, hx, rfl⟩ := zcg hdd
        exact Or.inr (hnv x (List.mem_of_getElem? hx) q hk)
theorem Kn.apart {w0 w : World} {bk n : Nat} {B : List Nat} (h : Kn w0 bk n w B) (ht : Bq.Tab w) (hg : Bq.gTab ∉ B) :
    Calls Tryz.prog 10 #[.pointer (some ⟨bk, 0, none⟩)] w fun e w' => e = .returned (.bool true) /\ Fr B w w' := by
  obtain ⟨T, rI, rW, rT, hI, hW, hT, h1, h2, rfl⟩ := h
  obtain ⟨cs, hX, hc⟩ := h1.box
  refine (Bq.apart4_any bk cs _ _ _ _ _ _ _ _ w hX h1.sB h1.sI h1.sW h1.sT ht (fun hm => hg (List.mem_cons_of_mem _ hm))).mono ?_
  rintro e w' ⟨rfl, hF⟩
  exact ⟨rfl, hF.mono (fun x hx _ => List.mem_cons_of_mem _ hx)⟩
theorem ztj (s a : Int) (bo : Option Addr) (M cb : Nat) (w : World) : Calls Tryz.prog 19 #[.pointer none, .int .i64 s, .int .i64 a, .slice bo M cb] w fun e w' => e = .returned (.int .i64 2) /\ w = w' := by
  go_enter Tryz.func19, Tryz.ntmps19
  go_wp2_with fail
  refine (zcv (.pointer none) _ (Or.inl rfl)).mono ?_
  rintro e w1 ⟨rfl, rfl⟩
  go_wp2
  go_ret
  exact ⟨rfl, rfl⟩
theorem ztk (s : Int) (w : World) : Calls Tryz.prog 21 #[.pointer none, .int .i64 s] w fun e w' => e = .returned (.int .i64 2) /\ w = w' := by
  go_enter Tryz.func21, Tryz.ntmps21
  go_wp2_with fail
  refine (zcv (.pointer none) _ (Or.inl rfl)).mono ?_
  rintro e w1 ⟨rfl, rfl⟩
  go_wp2
  go_ret
  exact ⟨rfl, rfl⟩
theorem zlm (s : Int) (w : World) : Calls Tryz.prog 36 #[.pointer none, .int .i64 s] w fun e w' => e = .returned (.tuple #[.slice none 0 0, .int .i64 2]) /\ w = w' := by
  go_enter Tryz.func36, Tryz.ntmps36
  go_wp2_with fail
  refine (zcv (.pointer none) _ (Or.inl rfl)).mono ?_
  rintro e w1 ⟨rfl, rfl⟩
  go_wp2
  go_ret2
  exact ⟨rfl, rfl⟩
theorem zyu (s : Int) (w : World) : Calls Tryz.prog 23 #[.pointer none, .int .i64 s] w fun e w' => e = .returned (.int .i64 2) /\ w = w' := by
  go_enter Tryz.func23, Tryz.ntmps23
  go_wp2_with fail
  refine (zcv (.pointer none) _ (Or.inl rfl)).mono ?_
  rintro e w1 ⟨rfl, rfl⟩
  go_wp2
  go_ret
  exact ⟨rfl, rfl⟩
theorem zwl (w : World) : Calls Tryz.prog 25 #[.pointer none] w fun e w' => e = .returned (.int .i64 2) /\ w = w' := by
  go_enter Tryz.func25, Tryz.ntmps25
  go_wp2_with fail
  refine (zcv (.pointer none) _ (Or.inl rfl)).mono ?_
  rintro e w1 ⟨rfl, rfl⟩
  go_wp2
  go_ret
  exact ⟨rfl, rfl⟩
theorem zwm (w : World) : Calls Tryz.prog 32 #[.pointer none] w fun e w' => e = .returned (.bool false) /\ w = w' := by
  go_enter Tryz.func32, Tryz.ntmps32
  go_wp2_with fail
  refine (zcv (.pointer none) _ (Or.inl rfl)).mono ?_
  rintro e w1 ⟨rfl, rfl⟩
  go_wp2
  go_ret
  exact ⟨rfl, rfl⟩
theorem zqf (w : World) : Calls Tryz.prog 34 #[.pointer none] w fun e w' => e = .returned (.int .i64 0) /\ w = w' := by
  go_enter Tryz.func34, Tryz.ntmps34
  go_wp2_with fail
  refine (zcv (.pointer none) _ (Or.inl rfl)).mono ?_
  rintro e w1 ⟨rfl, rfl⟩
  go_wp2
  go_ret
  exact ⟨rfl, rfl⟩
theorem zhi (w : World) : Calls Tryz.prog 28 #[.pointer none] w fun e w' => e = .returned (.tuple #[.agg #[.int .i64 0, .slice none 0 0, .slice none 0 0], .int .i64 0, .int .i64 0, .bool false, .int .i64 2]) /\ Fr [] w w' := by
  obtain ⟨w1, HW1⟩ : ∃ w1, Hid (w.alloc (.cells #[.int .i64 0, .slice none 0 0, .slice none 0 0] 57) = w1) := ⟨_, rfl⟩
  have hF1 : Fr [] w w1 := by rw [<- HW1.out]; exact Fr.alloc [] w _
  obtain ⟨A, hA⟩ : ∃ A, A = w.heap.size := ⟨_, rfl⟩
  have hs : SB w1 A (.int .i64 0) (.slice none 0 0) (.slice none 0 0) := ⟨by rw [<- HW1.out, hA]; exact zgq w⟩
  have a0 := hs.c0
  have a1 := hs.c1
  have a2 := hs.c2
  have b0 := hs.fz 0
  have b1 := hs.fz 1
  have b2 := hs.fz 2
  have HR : Hid ((loadVar 57 ⟨A, 0, none⟩).run Tryz.prog (((w1.setCell ⟨A, 0, none⟩ (.int .i64 0)).setCell ⟨A, 1, none⟩ (.slice none 0 0)).setCell ⟨A, 2, none⟩ (.slice none 0 0)) = .ok (.agg #[.int .i64 0, .slice none 0 0, .slice none 0 0]) (((w1.setCell ⟨A, 0, none⟩ (.int .i64 0)).setCell ⟨A, 1, none⟩ (.slice none 0 0)).setCell ⟨A, 2, none⟩ (.slice none 0 0)) /\ Fr [] w (((w1.setCell ⟨A, 0, none⟩ (.int .i64 0)).setCell ⟨A, 1, none⟩ (.slice none 0 0)).setCell ⟨A, 2, none⟩ (.slice none 0 0))) := by
    obtain ⟨q1, q2⟩ := hs.fr0 (.int .i64 0) (.slice none 0 0) (.slice none 0 0)
    exact ⟨zdc q1.box, hF1.on q2 (fun j hj => by simp at hj; omega)⟩
  have HN : Hid (Calls _ _ _ _ _) := zlm 0 w1
  clear hs hF1
  go_enter Tryz.func28, Tryz.ntmps28
  go_upto_region 1 with fail
  rw [HW1.out, <- hA]
  clear HW1 hA
  go_wp2_with fail
  go_loopw [13] (fun ii wr => ii = .int .i64 0 /\ wr = w1) (fun _ _ => 0)
  case atStart => exact ⟨rfl, rfl⟩
  case round =>
    obtain ⟨rfl, rfl⟩ := hrel
    go_wp2_with fail
    refine Calls.mono HN.out ?_
    rintro e w2 ⟨rfl, rfl⟩
    go_wp2
    refine bodyPost_ret (v := .tuple #[.agg #[.int .i64 0, .slice none 0 0, .slice none 0 0], .int .i64 0, .int .i64 0, .bool false, .int .i64 2]) (by rw [zcd rfl _ _ _ A _ rfl HR.out.1]; rfl) rfl ?_
    exact ⟨rfl, HR.out.2⟩
theorem zyv (m : Int) (bo ho : Option Addr) (Lb cb Lh ch : Nat) (w : World) : Calls Tryz.prog 15 #[.pointer none, .agg #[.int .i64 m, .slice bo Lb cb, .slice ho Lh ch]] w fun e w' => e = .returned (.tuple #[.pointer none, .int .i64 2]) /\ Fr [] w w' := by
  obtain ⟨w1, HW1⟩ : ∃ w1, Hid (w.alloc (.cells #[.int .i64 m, .slice bo Lb cb, .slice ho Lh ch] 57) = w1) := ⟨_, rfl⟩
  have HF1 : Hid (Fr [] w w1) := by show Fr [] w w1; rw [<- HW1.out]; exact Fr.alloc [] w _
  have HN : Hid (Calls _ _ _ _ _) := zhi w1
  go_enter Tryz.func15, Tryz.ntmps15
  go_upto_region 1 with fail
  rw [HW1.out]
  clear HW1
  go_wp2_with fail
  refine Calls.mono HN.out ?_
  rintro e w2 ⟨rfl, hF2⟩
  have HF2 : Hid (Fr [] w (w2.alloc (.cells #[.int .i64 0, .slice none 0 0, .slice none 0 0] 57))) := HF1.out.then (hF2.then (Fr.alloc [] _ _))
  clear hF2 HN
  go_wp2
  go_ret2
  exact ⟨rfl, HF2.out⟩
end Go.Proofs.YtembflnhhfliaaaGreatDoor
