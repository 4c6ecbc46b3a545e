/- The landed box (chunk): Clear. -/
import Derived.Test.YtiknfohadnjkiaaChunkBoxM
import Derived.Test.YtiknfohadnjkiaaChunkFillM
import Derived.Test.YtiknfohadnjkiaaChunkMath
import Derived.Test.YtiknfohadnjkiaaClearN
import Derived.Test.YtiknfohadnjkiaaFrame
import Derived.Test.YtiknfohadnjkiaaGen
import Derived.Test.YtiknfohadnjkiaaLandBox1W
import Derived.Test.YtiknfohadnjkiaaOwnL
import Derived.Test.YtiknfohadnjkiaaRefBoxW
import Derived.Test.YtiknfohadnjkiaaRowN
import Derived.Test.YtiknfohadnjkiaaRows
import Derived.BigQuiet
import Derived.Deep.QuietTactic
import Derived.Deep.RegionHeld3
import Derived.Laws.ResultCell
import Derived.Lib.Hide
import Derived.Outline
import Derived.WalkKit
import Derived.WalkLawsBesides
import Derived.WalkSpells
set_option linter.unusedVariables false
namespace Go.Proofs.Ytiknfohadnjkiaa
open Go.RowKit

set_option maxRecDepth 100000 in
set_option maxHeartbeats 2000000 in
theorem clear13_any {w : World} {b g c : Nat} {st : BoxS} (h : BXF w b g c st) : Calls Try.prog 22 #[.pointer (some ⟨b, 0, none⟩)] w fun e w' => e = .returned (.tuple #[]) ∧ BXF w' b g c (List.replicate st.length none) ∧ Kept (fun i => i = b ∨ i = g) w w' := by
  obtain ⟨e0, e1, e2⟩ := h.cell
  obtain ⟨hl1, hl2, hl3⟩ := h.len
  obtain ⟨w1, hc1, ho1, hk1⟩ := run_clear_own (P := Try.prog) encPl_ok (by decide) (t := 58) (.agg #[.string ByteArray.empty, .bool false]) none Try.underlying58 (fun w => by kernel_rfl) rfl h.pl (by omega)
  have hb1 := hk1.old h.box h.n1
  have k0 : w1.cell? ⟨b, 0, none⟩ = some (.slice (some ⟨g, 0, none⟩) st.length c) := by rw [cell_of_row _ _ _ _ _ _ hb1]; rfl
  have k1 : w1.cell? ⟨b, 1, none⟩ = some (.int .i64 (leftB st : Nat)) := by rw [cell_of_row _ _ _ _ _ _ hb1]; rfl
  have k2 : w1.cell? ⟨b, 2, none⟩ = some (.int .i64 ((allB st).length : Nat)) := by rw [cell_of_row _ _ _ _ _ _ hb1]; rfl
  have f1 : w1.frozen? ⟨b, 1, none⟩ = false := frozen_row hb1
  have f2 : w1.frozen? ⟨b, 2, none⟩ = false := frozen_row hb1
  have hl : (List.replicate st.length (none : Option (List UInt8))).length = st.length := List.length_replicate
  have HE := Lib.hid (show BXF ((w1.setCell ⟨b, 1, none⟩ (.int .i64 (st.length : Nat))).setCell ⟨b, 2, none⟩ (.int .i64 0)) b g c (List.replicate st.length none) ∧ Kept (fun i => i = b ∨ i = g) w ((w1.setCell ⟨b, 1, none⟩ (.int .i64 (st.length : Nat))).setCell ⟨b, 2, none⟩ (.int .i64 0)) from by
    have kk : Kept (· = b) w1 ((w1.setCell ⟨b, 1, none⟩ (.int .i64 (st.length : Nat))).setCell ⟨b, 2, none⟩ (.int .i64 0)) := ((Kept.refl (· = b) w1).setCell (p := ⟨b, 1, none⟩) rfl _).setCell (p := ⟨b, 2, none⟩) rfl _
    refine ⟨⟨?_, ?_, h.n1, by rw [hl, allB_none]; simp only [List.length_nil]; omega⟩, ?_⟩
    · rw [hl, allB_none, leftB_none, heap_setCell_same _ _ _ _ _ _ (heap_setCell_same _ _ _ _ _ _ hb1)]
      rfl
    · rw [hl]
      exact ho1.kept kk (fun g0 hg => by injection hg with hg; have hg' : g = g0 := hg; rw [← hg']; exact fun c => h.n1 c.symm)
    · exact (hk1.mono (fun i _ e => .inr e)).trans (kk.mono (fun i _ e => .inl e)))
  clear ho1 hk1 hb1 h
  go_enter Try.func22, Try.ntmps22
  go_wp2_with fail
  exact bodyPost_end (results_none Try.results22 _ _ _) rfl ⟨rfl, HE.out.1, HE.out.2⟩
end Go.Proofs.Ytiknfohadnjkiaa
