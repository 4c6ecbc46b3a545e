/- Several texts in one: Laid, Laid2, Laid4. -/
import Derived.Test.YtamiacmnobklaaaGreatDoorCrX
import Derived.Test.YtamiacmnobklaaaGreatDoorRows
import Derived.Laws.BitsAllLaws
import Derived.Lib.LaidTab
import Derived.MakeChecks
import Derived.WalkKit
import Derived.Test.YtamiacmnobklaaaGreatDoorMpX
import Derived.Deep.Draws
import Derived.Deep.QuietTactic
import Derived.Laws.Bits128
import Derived.Laws.IdiomStrings
import Derived.Lib.AppendStr
import Derived.Lib.Hide
import Derived.Lib.TrailingZeros
import Derived.OpenShut
import Derived.ProofKit
import Derived.ShutString
import Derived.SizedLaws
import Derived.SliceStrings
/- What the listed tables give the walks. -/
set_option linter.unusedVariables false
namespace Go.Proofs.YtamiacmnobklaaaGreatDoor
open Go.RowKit

theorem laidMet_tail {P : Program} {W : World} {x : String × DataW Unit} {l : List (String × DataW Unit)} (h : laidMet P (x :: l) W) : laidMet P l W := by
  obtain ⟨ps, ⟨g, t, cs, fuel, p, q, _, _, _, _, hr, rfl⟩, hn, hall⟩ := h
  rw [List.nodup_append] at hn
  exact ⟨q, hr, hn.2.1, fun b off hm => hall b off (List.mem_append_right _ hm)⟩
def halfZ : List Int := [0, 498536548, 997073096, 651767980, 1994146192, 1802195444, 1303535960, 1342533948, 3988292384, 4027552580, 3604390888, 3412177804, 2607071920, 2262029012, 2685067896, 3183342108]
theorem halfZ_is : ∀ i, i < 16 → halfZ.getD i 0 = (halfL.getD i 0 : Nat) := by decide +kernel
theorem tab_of_met {W : World} {rest : List (String × DataW Unit)} (h : laidMet Tryz.prog (("barque/frame.half", Rows.laid_barque_frame_half) :: rest) W) : Tab W := by
  have h1 : Lib.TabIs Tryz.prog W "barque/frame.half" .u32 halfZ :=
    Lib.tabIs_of_head (g := 0) (t := 196) (k := .u32) (zs := halfZ) (by kernel_rfl) (by kernel_rfl) Tryz.underlying196 Tryz.underlying114 (by kernel_rfl) (by kernel_rfl) h
  have hc := fun i hi => h1.cell (g := 0) (by kernel_rfl) i hi
  refine ⟨World.block_lt_of_cell? W _ (hc 0 (by decide)), fun i hi => ?_⟩
  rw [hc i (by simpa [halfZ] using hi), halfZ_is i hi]
theorem tab_of_laid1 {W : World} (h : laidMetH Tryz.prog [("barque/frame.half", Rows.laid_barque_frame_half)] W) : Tab W := by
  rw [MakeChecks.laidMetH_plain _ _ _ (by kernel_rfl)] at h
  exact tab_of_met h
end Go.Proofs.YtamiacmnobklaaaGreatDoor
/- What the two listed tables give the walks. -/
set_option linter.unusedVariables false
namespace Go.Proofs.YtamiacmnobklaaaGreatDoor
open Go.RowKit

def bruZ : List Int := [0, 1, 28, 2, 29, 14, 24, 3, 30, 22, 20, 15, 25, 17, 4, 8, 31, 27, 13, 23, 21, 19, 16, 7, 26, 12, 18, 6, 11, 5, 10, 9]
theorem bruZ_is : ∀ i, i < 32 → bruZ.getD i 0 = (Lib.deBruijn32tab.getD i 0 : Nat) := by decide +kernel
theorem btab_of_met {W : World} {rest : List (String × DataW Unit)} (h : laidMet Tryz.prog (("math/bits.deBruijn32tab", Rows.laid_math_bits_deBruijn32tab) :: rest) W) : BTab W := by
  have h1 : Lib.TabIs Tryz.prog W "math/bits.deBruijn32tab" .u8 bruZ :=
    Lib.tabIs_of_head (g := 1) (t := 125) (k := .u8) (zs := bruZ) (by kernel_rfl) (by kernel_rfl) Tryz.underlying125 Tryz.underlying5 (by kernel_rfl) (by kernel_rfl) h
  have hc := fun i hi => h1.cell (g := 1) (by kernel_rfl) i hi
  refine ⟨World.block_lt_of_cell? W _ (hc 0 (by decide)), fun i hi => ?_⟩
  rw [hc i (by simpa [bruZ] using hi), bruZ_is i hi]
theorem tab_of_laid2 {W : World} (h : laidMetH Tryz.prog [("math/bits.deBruijn32tab", Rows.laid_math_bits_deBruijn32tab), ("barque/frame.half", Rows.laid_barque_frame_half)] W) : Tab W ∧ BTab W := by
  rw [MakeChecks.laidMetH_plain _ _ _ (by kernel_rfl)] at h
  exact ⟨tab_of_met (laidMet_tail h), btab_of_met h⟩
end Go.Proofs.YtamiacmnobklaaaGreatDoor
/- What the four listed tables give the walks: the two of the landed sums. -/
set_option linter.unusedVariables false
namespace Go.Proofs.YtamiacmnobklaaaGreatDoor
open Go.RowKit

theorem tab_of_laid4 {W : World} (h : laidMetH Tryz.prog [("math/bits.deBruijn32tab", Rows.laid_math_bits_deBruijn32tab), ("unicode/utf8.acceptRanges", Rows.laid_unicode_utf8_acceptRanges), ("barque/frame.half", Rows.laid_barque_frame_half), ("unicode/utf8.first", Rows.laid_unicode_utf8_first)] W) : Tab W ∧ BTab W := by
  rw [MakeChecks.laidMetH_plain _ _ _ (by kernel_rfl)] at h
  exact ⟨tab_of_met (laidMet_tail (laidMet_tail h)), btab_of_met h⟩
end Go.Proofs.YtamiacmnobklaaaGreatDoor
