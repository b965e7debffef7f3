/- That the statements' own check of some fixed answers (the function alive) is true. No conditions. -/
import Derived.Test.YtgoonbikhdbkiaaLd
namespace Go.Proofs.Ytgoonbikhdbkiaa
open Go.ChangeShapes Go.WideShapes Go.ChangeAt Go.RowKit Go.Lib

theorem St.eta {t t' : St} (h : t = t') {w0 w : World} {g : Nat} {S : List Nat} (k : LD w0 w g S t) : LD w0 w g S t' := h ▸ k
theorem conv_axyz (w : World) (ao : Option Addr) (n cap : Nat) (hn : n = 4) (h : w.ownsRow 0 5 1 (.slice ao n cap) n (bts [97, 120, 121, 122])) :
    Sem.run Try.prog (convert 22 9 (.slice ao n cap)) w = .ok (.string ⟨#[97, 120, 121, 122]⟩) w := by
  subst hn
  obtain ⟨g, c, e, _⟩ := own_form h (by omega)
  cases e
  rw [run_convert_bytes_string w 22 9 5 _ _ _ Try.undBs Try.undB Try.undStr]
  have hl := run_loadCells_list (P := Try.prog) w ⟨g, 0, none⟩ (bts [97, 120, 121, 122]) (h.cells (g := g) rfl)
  have e : bts [97, 120, 121, 122] = ([97, 120, 121, 122] : List Int).map (Value.int .u8) := rfl
  rw [e] at hl
  rw [run_bytesToString w ⟨g, 0, none⟩ 4 cap _ hl]
  rfl

set_option maxHeartbeats 4000000 in
set_option maxRecDepth 100000 in
theorem alive_any (w : World) : Calls Try.prog 9 #[] w fun e w' => e = .returned (.bool true) ∧ Fr [] w w' := by
  have kc := fun (w : World) (C : Array Value) (n c : Nat) => Lib.run_convert_bytes_const (P := Try.prog) w 22 5 C n c Try.undBs Try.undB
  go_enter Try.func9, Try.ntmps9
  go_wp2_with fail
  refine (ld_new 4 w w (Fr.refl _ _) (by omega)).mono ?_
  rintro e w1 ⟨g, S, rfl, h1, _, hF1⟩
  go_wp2_with fail
  refine (new_no (-1) w1 (by omega)).mono ?_
  rintro e _ ⟨rfl, rfl⟩
  go_wp2_with fail
  have hl : (w1.alloc (Obj.cells #[Value.int IntKind.u8 97, Value.int IntKind.u8 98] 5 (2, 3))).heap[w1.heap.size]? = some (.cells (bts [97, 98]).toArray 5 (2, 3)) := heap_alloc_new w1 _
  refine (ld_write (t' := ⟨4, [97, 98], [], -1, false, 1⟩) (h1.quiet (Fr.alloc [] w1 _)) (by decide) (by omega) (lit_arg (L := 2) rfl (by decide) (by omega) hl) (h1.fresh 2) (Wrote.done0 rfl (by omega) (by decide) (by decide) (by decide) (by decide))).mono ?_
  rintro e w2 ⟨rfl, S2, h2, _⟩
  clear h1 hl
  go_wp2_with fail
  have hl : (w2.alloc (Obj.cells #[Value.int IntKind.u8 120, Value.int IntKind.u8 121, Value.int IntKind.u8 122] 5 (3, 4))).heap[w2.heap.size]? = some (.cells (bts [120, 121, 122]).toArray 5 (3, 4)) := heap_alloc_new w2 _
  refine (ld_write (t' := ⟨4, [97, 120, 121, 122], [], -1, false, 2⟩) (h2.quiet (Fr.alloc [] w2 _)) (by decide) (by omega) (lit_arg (L := 3) rfl (by decide) (by omega) hl) (h2.fresh 3) (Wrote.done0 rfl (by omega) (by decide) (by decide) (by decide) (by decide))).mono ?_
  rintro e w3 ⟨rfl, S3, h3, _⟩
  clear h2 hl
  go_wp2_with fail
  refine (ld_write (t' := ⟨4, [97, 120, 121, 122], [], -1, false, 2⟩) h3 (by decide) (by omega) (nil_arg w3) (fun h => by omega) (Wrote.order0 rfl (by omega) (by decide) (by decide))).mono ?_
  rintro e w4 ⟨rfl, S4, h4, _⟩
  clear h3
  go_wp2_with fail
  have hl : (w4.alloc (Obj.cells #[Value.int IntKind.u8 122] 5 (1, 2))).heap[w4.heap.size]? = some (.cells (bts [122]).toArray 5 (1, 2)) := heap_alloc_new w4 _
  refine (ld_write (t' := ⟨4, [97, 120, 121, 122], [], -1, false, 2⟩) (h4.quiet (Fr.alloc [] w4 _)) (by decide) (by omega) (lit_arg (L := 1) rfl (by decide) (by omega) hl) (h4.fresh 1) (Wrote.space0 rfl (by omega) (by decide) (by decide) (by decide))).mono ?_
  rintro e w5 ⟨rfl, S5, h5, _⟩
  clear h4 hl
  go_wp2_with fail
  refine (ld_read h5 (Told.slot0 rfl)).mono ?_
  rintro e w6 ⟨ao, n, cap, rfl, hR, h6⟩
  have hcv := conv_axyz w6 ao n cap hR.len hR.own
  clear h5 hR
  go_wp2_with fail
  refine (ld_writes h6 (m := 2) rfl).mono ?_
  rintro e _ ⟨rfl, rfl⟩
  go_wp2_with fail
  refine (ld_cut h6 0 (by omega) rfl).mono ?_
  rintro e w7 ⟨rfl, h7, _⟩
  go_wp2_with fail
  refine (ld_clear (t' := ⟨4, [97, 120, 121, 122], [], 0, true, 2⟩) h7 (by decide) (Cleared.cut (Or.inr rfl) (by decide))).mono ?_
  rintro e w8 ⟨rfl, S8, h8, _⟩
  go_wp2_with fail
  refine (ld_dead h8 (b := true) rfl).mono ?_
  rintro e _ ⟨rfl, rfl⟩
  go_wp2_with fail
  refine (ld_mend h8).mono ?_
  rintro e w9 ⟨rfl, h9, _⟩
  go_wp2_with fail
  refine (ld_dead h9 (b := false) rfl).mono ?_
  rintro e _ ⟨rfl, rfl⟩
  have hF := h9.fr
  go_wp2_with fail
  go_ret
  exact ⟨rfl, hF⟩
end Go.Proofs.Ytgoonbikhdbkiaa
