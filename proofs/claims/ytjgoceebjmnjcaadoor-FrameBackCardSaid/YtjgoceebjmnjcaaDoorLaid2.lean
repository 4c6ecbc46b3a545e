/- What the two listed tables give the walks. -/
import Derived.Test.YtjgoceebjmnjcaaDoorLaid
import Derived.Test.YtjgoceebjmnjcaaDoorMapW
set_option linter.unusedVariables false
namespace Go.Proofs.YtjgoceebjmnjcaaDoor
open Go.RowKit

def bruZ : List Int := [0, 1, 28, 2, 29, 14, 24, 3, 30, 22, 20, 15, 25, 17, 4, 8, 31, 27, 13, 23, 21, 19, 16, 7, 26, 12, 18, 6, 11, 5, 10, 9]
theorem bruZ_is : ∀ i, i < 32 → bruZ.getD i 0 = (Lib.deBruijn32tab.getD i 0 : Nat) := by decide +kernel
theorem btab_of_met {W : World} {rest : List (String × DataW Unit)} (h : laidMet Tryd.prog (("math/bits.deBruijn32tab", Rows.laid_math_bits_deBruijn32tab) :: rest) W) : BTab W := by
  have h1 : Lib.TabIs Tryd.prog W "math/bits.deBruijn32tab" .u8 bruZ :=
    Lib.tabIs_of_head (g := 1) (t := 84) (k := .u8) (zs := bruZ) (by kernel_rfl) (by kernel_rfl) Tryd.underlying84 Tryd.underlying5 (by kernel_rfl) (by kernel_rfl) h
  have hc := fun i hi => h1.cell (g := 1) (by kernel_rfl) i hi
  refine ⟨World.block_lt_of_cell? W _ (hc 0 (by decide)), fun i hi => ?_⟩
  rw [hc i (by simpa [bruZ] using hi), bruZ_is i hi]
theorem tab_of_laid2 {W : World} (h : laidMetH Tryd.prog [("math/bits.deBruijn32tab", Rows.laid_math_bits_deBruijn32tab), ("barque/frame.half", Rows.laid_barque_frame_half)] W) : Tab W ∧ BTab W := by
  rw [MakeChecks.laidMetH_plain _ _ _ (by kernel_rfl)] at h
  exact ⟨tab_of_met (laidMet_tail h), btab_of_met h⟩
end Go.Proofs.YtjgoceebjmnjcaaDoor
