/- What the listed tables give the walks. -/
import Derived.Test.YtjgoceebjmnjcaaDoorRows
import Derived.Test.YtjgoceebjmnjcaaDoorSumW
import Derived.Lib.LaidTab
import Derived.MakeChecks
set_option linter.unusedVariables false
namespace Go.Proofs.YtjgoceebjmnjcaaDoor
open Go.RowKit

theorem laidMet_tail {P : Program} {W : World} {x : String × DataW Unit} {l : List (String × DataW Unit)} (h : laidMet P (x :: l) W) : laidMet P l W := by
  obtain ⟨ps, ⟨g, t, cs, fuel, p, q, _, _, _, _, hr, rfl⟩, hn, hall⟩ := h
  rw [List.nodup_append] at hn
  exact ⟨q, hr, hn.2.1, fun b off hm => hall b off (List.mem_append_right _ hm)⟩
def halfZ : List Int := [0, 498536548, 997073096, 651767980, 1994146192, 1802195444, 1303535960, 1342533948, 3988292384, 4027552580, 3604390888, 3412177804, 2607071920, 2262029012, 2685067896, 3183342108]
theorem halfZ_is : ∀ i, i < 16 → halfZ.getD i 0 = (halfL.getD i 0 : Nat) := by decide +kernel
theorem tab_of_met {W : World} {rest : List (String × DataW Unit)} (h : laidMet Tryd.prog (("barque/frame.half", Rows.laid_barque_frame_half) :: rest) W) : Tab W := by
  have h1 : Lib.TabIs Tryd.prog W "barque/frame.half" .u32 halfZ :=
    Lib.tabIs_of_head (g := 0) (t := 67) (k := .u32) (zs := halfZ) (by kernel_rfl) (by kernel_rfl) Tryd.underlying67 Tryd.underlying44 (by kernel_rfl) (by kernel_rfl) h
  have hc := fun i hi => h1.cell (g := 0) (by kernel_rfl) i hi
  refine ⟨World.block_lt_of_cell? W _ (hc 0 (by decide)), fun i hi => ?_⟩
  rw [hc i (by simpa [halfZ] using hi), halfZ_is i hi]
theorem tab_of_laid1 {W : World} (h : laidMetH Tryd.prog [("barque/frame.half", Rows.laid_barque_frame_half)] W) : Tab W := by
  rw [MakeChecks.laidMetH_plain _ _ _ (by kernel_rfl)] at h
  exact tab_of_met h
end Go.Proofs.YtjgoceebjmnjcaaDoor
