/- The walk of the law DiskCuts. Conditions: a list of rows of bytes that came in. -/
import Derived.Test.YtgoonbikhdbkiaaCutsArg
namespace Go.Proofs.Ytgoonbikhdbkiaa
open Go.ChangeShapes Go.WideShapes Go.ChangeAt Go.RowKit Go.Lib

/-- What the law keeps from round to round. -/
structure CI (w0 : World) (g : Nat) (n i : Nat) (v : Value) (W : List Nat) (S : List Nat) (w : World) : Prop where
  ld : LD w0 w g S (cutSt W n i)
  own : w.ownsRow 0 5 1 v W.length (bts W)
  newv : ∀ k, v.ownBlock = some k → w0.heap.size ≤ k
  ap : ∀ k, v.ownBlock = some k → k ∉ S
  few : W.length ≤ 64 * i
  low : ∀ x ∈ W, x < 256
section
variable {w0 w w' : World} {g n i : Nat} {v : Value} {W : List Nat} {S : List Nat}
theorem CI.quiet (h : CI w0 g n i v W S w) (hf : Fr [] w w') : CI w0 g n i v W S w' :=
  ⟨h.ld.quiet hf, owns_keep h.own hf (by simp), h.newv, h.ap, h.few, h.low⟩
theorem CI.apart (h : CI w0 g n i v W S w) {S' : List Nat} (hT : To S S' w w') : ∀ k, v.ownBlock = some k → k ∉ S' := by
  intro k hk hm
  rcases hT.grew k hm with h1 | h1
  · exact h.ap k hk h1
  · have := (h.own.lt k hk).2
    omega
theorem CI.kept (h : CI w0 g n i v W S w) {S' : List Nat} (hT : To S S' w w') : w'.ownsRow 0 5 1 v W.length (bts W) := owns_keep h.own hT.fr h.ap
end

set_option maxHeartbeats 4000000 in
set_option maxRecDepth 100000 in
theorem cuts_big (n : Nat) (ao : Option Addr) (L cap : Nat) (w : World) (hL : 300 < L) (hLm : L ≤ 9223372036854775807) :
    Calls Try.prog 4 #[.int .u8 (n : Int), .slice ao L cap] w fun e w' => e = .returned (.bool true) ∧ Fr [] w w' := by
  have hL' : (300 : Int) < L := by omega
  go_enter Try.func4, Try.ntmps4
  go_wp2_with fail
  refine (alive_any w).mono ?_
  rintro e w1 ⟨rfl, hF1⟩
  go_wp2_with fail
  refine (alive_any w1).mono ?_
  rintro e w2 ⟨rfl, hF2⟩
  have hF := hF1.then hF2
  go_wp2_with fail
  go_ret
  exact ⟨rfl, hF⟩

set_option maxHeartbeats 8000000 in
set_option maxRecDepth 100000 in
theorem cuts (n : Nat) (ao : Option Addr) (L cap : Nat) (bs : List BV) (w : World) (hn : n < 256) (hB : BsArg w ao L cap bs) (hL : L ≤ 300) :
    Calls Try.prog 4 #[.int .u8 (n : Int), .slice ao L cap] w fun e w' => e = .returned (.bool true) ∧ Fr [] w w' := by
  have kc := fun (w : World) (C : Array Value) (n c : Nat) => Lib.run_convert_bytes_const (P := Try.prog) w 22 5 C n c Try.undBs Try.undB
  have hL' : (L : Int) ≤ 300 := by omega
  have HB : Hid (BsArg w ao L cap bs) := hB
  have HL : Hid (L = bs.length) := hB.len
  clear hB
  go_enter Try.func4, Try.ntmps4
  go_wp2_with fail
  refine (alive_any w).mono ?_
  rintro e w1 ⟨rfl, hF1⟩
  go_wp2_with fail
  refine (ld_new 65536 w w1 hF1 (by omega)).mono ?_
  rintro e w2 ⟨g, S2, rfl, h2, _, hF2⟩
  go_wp2_with fail
  refine (ld_cut h2 (n : Int) (by omega) rfl).mono ?_
  rintro e w3 ⟨rfl, h3, _⟩
  rw [cutSt_zero] at h3
  have HI0 : Hid (CI w g n 0 (.slice none 0 0) [] S2 w3) := ⟨h3, own_row_nil w3, by intro k hk; simp [Value.ownBlock] at hk, by intro k hk; simp [Value.ownBlock] at hk, by simp, by simp⟩
  clear h2 h3 hF1 hF2
  go_wp2_with fail
  go_loopw [7, 8, 9] (fun vv kk ii wr => ∃ (i : Nat) (wao : Option Addr) (wn wcap : Nat) (W : List Nat) (S : List Nat), vv = .slice wao wn wcap ∧ kk = .int .i64 i ∧ ii = .int .i64 i ∧ i ≤ L ∧ Hid (CI w g n i (.slice wao wn wcap) W S wr)) (fun _ _ ii _ => L - (intOf ii).toNat)
  case atStart => exact ⟨0, none, 0, 0, [], S2, rfl, rfl, rfl, Nat.zero_le _, HI0⟩
  case round =>
    clear HI0
    obtain ⟨i, wao, wn, wcap, W, S, rfl, rfl, rfl, hiL, HI⟩ := hrel
    have HWN : Hid (wn = W.length) := by
      show _ = _
      obtain ⟨_, _, e⟩ := own_slice HI.out.own
      cases e
      rfl
    have hW : W.length ≤ 19200 := by have := HI.out.few; omega
    have hwn : wn ≤ 19200 := by have := HWN.out; omega
    by_cases hi : i < L
    · obtain ⟨bb, bf, rfl, _, hc⟩ := (HB.out.keep HI.out.ld.fr).lies (by omega)
      have hci := hc i hi
      have hBi := HB.out.each _ (bv_mem bs i (by rw [← HL.out]; exact hi))
      obtain ⟨v, hv⟩ : ∃ v, v = bs.getD i BV.zero := ⟨_, rfl⟩
      rw [← hv] at hci hBi
      obtain ⟨a, l, c, xs⟩ := v
      simp only at hci hBi
      have hlc := hBi.fits
      have hlm := hBi.most
      clear hv hc
      by_cases hl : l ≤ 64
      · have hl64 : (l : Int) ≤ 64 := by omega
        obtain ⟨Y, HY⟩ : ∃ Y, Hid (Y = xs) := ⟨_, rfl⟩
        have HB1 : Hid (BArg w a l c Y) := by rw [HY.out]; exact hBi
        have HMY : Hid (l = Y.length) := HB1.out.len
        have hY64 : Y.length ≤ 64 := by have := HMY.out; omega
        clear hBi HY
        go_wp2_with fail
        by_cases hin : i < n
        · have hinI : (i : Int) < n := by omega
          refine (ld_write HI.out.ld (by show min i n < _; omega) (by omega) (HB1.out.keep HI.out.ld.fr) (HI.out.ld.apart HB1.out) (by rw [HWN.out]; exact cut_in W Y n i hin hY64 (by omega))).mono ?_
          rintro e wA ⟨rfl, S1, h1, hT1⟩
          have HT1 : Hid (To S S1 wr wA) := hT1
          have HapA : Hid (∀ k, (Value.slice wao wn wcap).ownBlock = some k → k ∉ S1) := HI.out.apart hT1
          have HkA : Hid (wA.ownsRow 0 5 1 (.slice wao wn wcap) wn (bts W)) := by have := HI.out.kept hT1; rw [HWN.out] at this ⊢; exact this
          have HLA : Hid (LD w wA g S1 (cutSt (W ++ Y) n (i + 1))) := h1
          clear h1 hT1
          go_wp2_with fail
          refine (ld_dead HLA.out (b := false) (by show decide (n < i + 1) = false; simp; omega)).mono ?_
          rintro e _ ⟨rfl, rfl⟩
          go_wp2_with (at_builtin; refine wpList_appB wA rfl (.tmp 65) (.tmp 66) rfl (.slice wao wn wcap) wn W rfl HkA.out a l c Y rfl (HB1.out.keep HLA.out.fr) (by omega) ?_)
          intro bo2 n2 cap2 wB hn2 hO2 hg2 hM2
          have hFB : Fr (Value.slice wao wn wcap).ownBlock.toList wA wB := Fr.grown (S := (Value.slice wao wn wcap).ownBlock.toList) hg2 (by intro k hk _; rw [hk]; simp)
          have HLB : Hid (LD w wB g S1 (cutSt (W ++ Y) n (i + 1))) := HLA.out.keepS hFB (fun k hk => HapA.out k (by simpa using hk)) (fun k hk => HI.out.newv k (by simpa using hk))
          have HOB : Hid (wB.ownsRow 0 5 1 (.slice bo2 n2 cap2) n2 (bts (W ++ Y))) := hO2
          have HN2 : Hid (n2 = (W ++ Y).length) := by show _ = _; have e1 := HI.out.own.1; rw [bts_length] at e1; have := HWN.out; have := HMY.out; rw [List.length_append]; omega
          have HnewB : Hid (∀ k, (Value.slice bo2 n2 cap2).ownBlock = some k → w.heap.size ≤ k) := hM2.lt HLA.out.fr.size HI.out.newv
          have HapB : Hid (∀ k, (Value.slice bo2 n2 cap2).ownBlock = some k → k ∉ S1) := by
            intro k hk hm
            rcases hM2 with h | ⟨y, hy, hge⟩
            · exact HapA.out k (h ▸ hk) hm
            · rw [hy] at hk; cases hk; have := HLA.out.lt _ hm; omega
          have hn2b : n2 ≤ 19300 := by omega
          clear hn2 hO2 hg2 hM2 hFB HLA HkA HapA HT1
          go_wp2_with fail
          refine (ld_read HLB.out (Told.slot1 rfl)).mono ?_
          rintro e wC ⟨ra, rn, rc, rfl, hR, hLC⟩
          have HR : Hid (Rs wC ra (W ++ Y)) := own_rs hR.own (by have := hR.len; have := HN2.out; simp only [cutSt] at *; omega)
          have HRl : Hid (rn = (W ++ Y).length) := hR.len
          have HOC : Hid (wC.ownsRow 0 5 1 (.slice bo2 n2 cap2) n2 (bts (W ++ Y))) := owns_keep HOB.out hR.fr (by simp)
          have HLC : Hid (LD w wC g S1 (cutSt (W ++ Y) n (i + 1))) := hLC
          clear hR hLC
          go_wp2_with fail
          refine (same_yes ra bo2 rn n2 rc cap2 (W ++ Y) (W ++ Y) wC HR.out (own_rs HOC.out (by omega)) HRl.out HN2.out rfl).mono ?_
          rintro e wD ⟨rfl, q, hwD⟩
          have HID : Hid (CI w g n (i + 1) (.slice bo2 n2 cap2) (W ++ Y) S1 wD) := by
            have hF : Fr [] wC wD := by rw [hwD]; exact Fr.drewN [] _ _
            refine CI.quiet ⟨HLC.out, ?_, HnewB.out, HapB.out, ?_, ?_⟩ hF
            · have := HOC.out; rw [HN2.out] at this ⊢; exact this
            · have := HI.out.few; rw [List.length_append]; omega
            · intro x hx; rcases List.mem_append.1 hx with h | h; exact HI.out.low x h; exact HB1.out.low x h
          clear hwD HR HRl HOC HLC
          go_wp2
          go_roundw
          case rel => exact ⟨i + 1, bo2, n2, cap2, (W ++ Y), S1, rfl, by simp, by simp, by omega, HID⟩
          case measure => simp [intOf]; omega
        · have hinI : (n : Int) ≤ i := by omega
          refine (ld_write HI.out.ld (by show min i n < _; omega) (by omega) (HB1.out.keep HI.out.ld.fr) (HI.out.ld.apart HB1.out) (by rw [HWN.out]; exact cut_out W Y n i (by omega) hY64 (by omega))).mono ?_
          rintro e wA ⟨rfl, S1, h1, hT1⟩
          have HapB : Hid (∀ k, (Value.slice wao wn wcap).ownBlock = some k → k ∉ S1) := HI.out.apart hT1
          have HOB : Hid (wA.ownsRow 0 5 1 (.slice wao wn wcap) wn (bts W)) := by have := HI.out.kept hT1; rw [HWN.out] at this ⊢; exact this
          have HLB : Hid (LD w wA g S1 (cutSt W n (i + 1))) := h1
          clear h1 hT1
          go_wp2_with fail
          refine (ld_dead HLB.out (b := true) (by show decide (n < i + 1) = true; simp; omega)).mono ?_
          rintro e _ ⟨rfl, rfl⟩
          go_wp2_with fail
          refine (ld_read HLB.out (Told.slot1 rfl)).mono ?_
          rintro e wC ⟨ra, rn, rc, rfl, hR, hLC⟩
          have HR : Hid (Rs wC ra W) := own_rs hR.own (by have := hR.len; have := HWN.out; simp only [cutSt] at *; omega)
          have HRl : Hid (rn = W.length) := hR.len
          have HOC : Hid (wC.ownsRow 0 5 1 (.slice wao wn wcap) wn (bts W)) := owns_keep HOB.out hR.fr (by simp)
          have HLC : Hid (LD w wC g S1 (cutSt W n (i + 1))) := hLC
          clear hR hLC
          go_wp2_with fail
          refine (same_yes ra wao rn wn rc wcap W W wC HR.out (own_rs HOC.out (by omega)) HRl.out HWN.out rfl).mono ?_
          rintro e wD ⟨rfl, q, hwD⟩
          have HID : Hid (CI w g n (i + 1) (.slice wao wn wcap) W S1 wD) := by
            have hF : Fr [] wC wD := by rw [hwD]; exact Fr.drewN [] _ _
            refine CI.quiet ⟨HLC.out, ?_, HI.out.newv, HapB.out, ?_, ?_⟩ hF
            · have := HOC.out; rw [HWN.out] at this ⊢; exact this
            · have := HI.out.few; omega
            · exact HI.out.low
          clear hwD HR HRl HOC HLC
          go_wp2
          go_roundw
          case rel => exact ⟨i + 1, wao, wn, wcap, W, S1, rfl, by simp, by simp, by omega, HID⟩
          case measure => simp [intOf]; omega
      · have hl64 : (64 : Int) < l := by omega
        have hc64 : 64 ≤ c := by omega
        obtain ⟨Y, HY⟩ : ∃ Y, Hid (Y = xs.take 64) := ⟨_, rfl⟩
        have HB1 : Hid (BArg w a 64 c Y) := by rw [HY.out]; exact hBi.take 64 (by omega)
        have HMY : Hid (64 = Y.length) := HB1.out.len
        have hY64 : Y.length ≤ 64 := by have := HMY.out; omega
        clear hBi HY
        go_wp2_with fail
        by_cases hin : i < n
        · have hinI : (i : Int) < n := by omega
          refine (ld_write HI.out.ld (by show min i n < _; omega) (by omega) (HB1.out.keep HI.out.ld.fr) (HI.out.ld.apart HB1.out) (by rw [HWN.out]; exact cut_in W Y n i hin hY64 (by omega))).mono ?_
          rintro e wA ⟨rfl, S1, h1, hT1⟩
          have HT1 : Hid (To S S1 wr wA) := hT1
          have HapA : Hid (∀ k, (Value.slice wao wn wcap).ownBlock = some k → k ∉ S1) := HI.out.apart hT1
          have HkA : Hid (wA.ownsRow 0 5 1 (.slice wao wn wcap) wn (bts W)) := by have := HI.out.kept hT1; rw [HWN.out] at this ⊢; exact this
          have HLA : Hid (LD w wA g S1 (cutSt (W ++ Y) n (i + 1))) := h1
          clear h1 hT1
          go_wp2_with fail
          refine (ld_dead HLA.out (b := false) (by show decide (n < i + 1) = false; simp; omega)).mono ?_
          rintro e _ ⟨rfl, rfl⟩
          go_wp2_with (at_builtin; refine wpList_appB wA rfl (.tmp 65) (.tmp 66) rfl (.slice wao wn wcap) wn W rfl HkA.out a 64 c Y rfl (HB1.out.keep HLA.out.fr) (by omega) ?_)
          intro bo2 n2 cap2 wB hn2 hO2 hg2 hM2
          have hFB : Fr (Value.slice wao wn wcap).ownBlock.toList wA wB := Fr.grown (S := (Value.slice wao wn wcap).ownBlock.toList) hg2 (by intro k hk _; rw [hk]; simp)
          have HLB : Hid (LD w wB g S1 (cutSt (W ++ Y) n (i + 1))) := HLA.out.keepS hFB (fun k hk => HapA.out k (by simpa using hk)) (fun k hk => HI.out.newv k (by simpa using hk))
          have HOB : Hid (wB.ownsRow 0 5 1 (.slice bo2 n2 cap2) n2 (bts (W ++ Y))) := hO2
          have HN2 : Hid (n2 = (W ++ Y).length) := by show _ = _; have e1 := HI.out.own.1; rw [bts_length] at e1; have := HWN.out; have := HMY.out; rw [List.length_append]; omega
          have HnewB : Hid (∀ k, (Value.slice bo2 n2 cap2).ownBlock = some k → w.heap.size ≤ k) := hM2.lt HLA.out.fr.size HI.out.newv
          have HapB : Hid (∀ k, (Value.slice bo2 n2 cap2).ownBlock = some k → k ∉ S1) := by
            intro k hk hm
            rcases hM2 with h | ⟨y, hy, hge⟩
            · exact HapA.out k (h ▸ hk) hm
            · rw [hy] at hk; cases hk; have := HLA.out.lt _ hm; omega
          have hn2b : n2 ≤ 19300 := by omega
          clear hn2 hO2 hg2 hM2 hFB HLA HkA HapA HT1
          go_wp2_with fail
          refine (ld_read HLB.out (Told.slot1 rfl)).mono ?_
          rintro e wC ⟨ra, rn, rc, rfl, hR, hLC⟩
          have HR : Hid (Rs wC ra (W ++ Y)) := own_rs hR.own (by have := hR.len; have := HN2.out; simp only [cutSt] at *; omega)
          have HRl : Hid (rn = (W ++ Y).length) := hR.len
          have HOC : Hid (wC.ownsRow 0 5 1 (.slice bo2 n2 cap2) n2 (bts (W ++ Y))) := owns_keep HOB.out hR.fr (by simp)
          have HLC : Hid (LD w wC g S1 (cutSt (W ++ Y) n (i + 1))) := hLC
          clear hR hLC
          go_wp2_with fail
          refine (same_yes ra bo2 rn n2 rc cap2 (W ++ Y) (W ++ Y) wC HR.out (own_rs HOC.out (by omega)) HRl.out HN2.out rfl).mono ?_
          rintro e wD ⟨rfl, q, hwD⟩
          have HID : Hid (CI w g n (i + 1) (.slice bo2 n2 cap2) (W ++ Y) S1 wD) := by
            have hF : Fr [] wC wD := by rw [hwD]; exact Fr.drewN [] _ _
            refine CI.quiet ⟨HLC.out, ?_, HnewB.out, HapB.out, ?_, ?_⟩ hF
            · have := HOC.out; rw [HN2.out] at this ⊢; exact this
            · have := HI.out.few; rw [List.length_append]; omega
            · intro x hx; rcases List.mem_append.1 hx with h | h; exact HI.out.low x h; exact HB1.out.low x h
          clear hwD HR HRl HOC HLC
          go_wp2
          go_roundw
          case rel => exact ⟨i + 1, bo2, n2, cap2, (W ++ Y), S1, rfl, by simp, by simp, by omega, HID⟩
          case measure => simp [intOf]; omega
        · have hinI : (n : Int) ≤ i := by omega
          refine (ld_write HI.out.ld (by show min i n < _; omega) (by omega) (HB1.out.keep HI.out.ld.fr) (HI.out.ld.apart HB1.out) (by rw [HWN.out]; exact cut_out W Y n i (by omega) hY64 (by omega))).mono ?_
          rintro e wA ⟨rfl, S1, h1, hT1⟩
          have HapB : Hid (∀ k, (Value.slice wao wn wcap).ownBlock = some k → k ∉ S1) := HI.out.apart hT1
          have HOB : Hid (wA.ownsRow 0 5 1 (.slice wao wn wcap) wn (bts W)) := by have := HI.out.kept hT1; rw [HWN.out] at this ⊢; exact this
          have HLB : Hid (LD w wA g S1 (cutSt W n (i + 1))) := h1
          clear h1 hT1
          go_wp2_with fail
          refine (ld_dead HLB.out (b := true) (by show decide (n < i + 1) = true; simp; omega)).mono ?_
          rintro e _ ⟨rfl, rfl⟩
          go_wp2_with fail
          refine (ld_read HLB.out (Told.slot1 rfl)).mono ?_
          rintro e wC ⟨ra, rn, rc, rfl, hR, hLC⟩
          have HR : Hid (Rs wC ra W) := own_rs hR.own (by have := hR.len; have := HWN.out; simp only [cutSt] at *; omega)
          have HRl : Hid (rn = W.length) := hR.len
          have HOC : Hid (wC.ownsRow 0 5 1 (.slice wao wn wcap) wn (bts W)) := owns_keep HOB.out hR.fr (by simp)
          have HLC : Hid (LD w wC g S1 (cutSt W n (i + 1))) := hLC
          clear hR hLC
          go_wp2_with fail
          refine (same_yes ra wao rn wn rc wcap W W wC HR.out (own_rs HOC.out (by omega)) HRl.out HWN.out rfl).mono ?_
          rintro e wD ⟨rfl, q, hwD⟩
          have HID : Hid (CI w g n (i + 1) (.slice wao wn wcap) W S1 wD) := by
            have hF : Fr [] wC wD := by rw [hwD]; exact Fr.drewN [] _ _
            refine CI.quiet ⟨HLC.out, ?_, HI.out.newv, HapB.out, ?_, ?_⟩ hF
            · have := HOC.out; rw [HWN.out] at this ⊢; exact this
            · have := HI.out.few; omega
            · exact HI.out.low
          clear hwD HR HRl HOC HLC
          go_wp2
          go_roundw
          case rel => exact ⟨i + 1, wao, wn, wcap, W, S1, rfl, by simp, by simp, by omega, HID⟩
          case measure => simp [intOf]; omega
    · have hi' : L ≤ i := by omega
      obtain rfl : L = i := by omega
      have HF : Hid (Fr [] w wr) := HI.out.ld.fr
      have HLd := HI.out.ld
      by_cases hLn : L ≤ n
      · have hLnI : (L : Int) ≤ n := by omega
        have hm : min L n = L := by omega
        go_wp2_with fail
        refine (ld_writes HLd (m := L) hm).mono ?_
        rintro e _ ⟨rfl, rfl⟩
        go_wp2_with fail
        refine (ld_mend HLd).mono ?_
        rintro e wE ⟨rfl, hE, _⟩
        go_wp2_with fail
        have hl : (wE.alloc (Obj.cells #[Value.int IntKind.u8 120] 5 (1, 2))).heap[wE.heap.size]? = some (.cells (bts [120]).toArray 5 (1, 2)) := heap_alloc_new wE _
        refine (ld_write (t' := ⟨65536, [120], W, -1, false, L + 1⟩) (hE.quiet (Fr.alloc [] wE _)) (by show min L n < _; omega) (by omega) (lit_arg (L := 1) rfl (by decide) (by omega) hl) (hE.fresh 1) (by
          have h := Wrote.done0 (t := (cutSt W n L).mend) (s := 0) (a := 0) (ys := [120]) rfl (by omega) (by simp) (by simp [cutSt, St.mend]) (by simp [cutSt, St.mend]) (by simp [St.mend])
          have e : ((cutSt W n L).mend).next.put0 (layB (cutSt W n L).mend.s0 (0 : Int).toNat [120]) = ⟨65536, [120], W, -1, false, L + 1⟩ := by
            simp [cutSt, St.mend, St.next, St.put0, layB]; omega
          rw [e] at h
          exact h)).mono ?_
        rintro e wG ⟨rfl, S9, h9, _⟩
        clear hl hE
        go_wp2_with fail
        refine (ld_writes h9 (m := L + 1) rfl).mono ?_
        rintro e _ ⟨rfl, rfl⟩
        have hF9 := h9.fr
        clear h9 HLd
        go_wp2
        go_ret
        exact ⟨by simp, hF9⟩
      
      · have hLnI : (n : Int) < L := by omega
        have hm : min L n = n := by omega
        go_wp2_with fail
        refine (ld_writes HLd (m := n) hm).mono ?_
        rintro e _ ⟨rfl, rfl⟩
        go_wp2_with fail
        refine (ld_mend HLd).mono ?_
        rintro e wE ⟨rfl, hE, _⟩
        go_wp2_with fail
        have hl : (wE.alloc (Obj.cells #[Value.int IntKind.u8 120] 5 (1, 2))).heap[wE.heap.size]? = some (.cells (bts [120]).toArray 5 (1, 2)) := heap_alloc_new wE _
        refine (ld_write (t' := ⟨65536, [120], W, -1, false, n + 1⟩) (hE.quiet (Fr.alloc [] wE _)) (by show min L n < _; omega) (by omega) (lit_arg (L := 1) rfl (by decide) (by omega) hl) (hE.fresh 1) (by
          have h := Wrote.done0 (t := (cutSt W n L).mend) (s := 0) (a := 0) (ys := [120]) rfl (by omega) (by simp) (by simp [cutSt, St.mend]) (by simp [cutSt, St.mend]) (by simp [St.mend])
          have e : ((cutSt W n L).mend).next.put0 (layB (cutSt W n L).mend.s0 (0 : Int).toNat [120]) = ⟨65536, [120], W, -1, false, n + 1⟩ := by
            simp [cutSt, St.mend, St.next, St.put0, layB]; omega
          rw [e] at h
          exact h)).mono ?_
        rintro e wG ⟨rfl, S9, h9, _⟩
        clear hl hE
        go_wp2_with fail
        refine (ld_writes h9 (m := n + 1) rfl).mono ?_
        rintro e _ ⟨rfl, rfl⟩
        have hF9 := h9.fr
        clear h9 HLd
        go_wp2
        go_ret
        exact ⟨by simp, hF9⟩
end Go.Proofs.Ytgoonbikhdbkiaa
