/- ChunkCuts: the walk (gen/chunklaws.py). -/
import Derived.Test.YtiknfohadnjkiaaBoxC
import Derived.Test.YtiknfohadnjkiaaChunkAwakeW
import Derived.Test.YtiknfohadnjkiaaChunkMath
import Derived.Test.YtiknfohadnjkiaaFrame
import Derived.Test.YtiknfohadnjkiaaGen
import Derived.Test.YtiknfohadnjkiaaOwnL
import Derived.Test.YtiknfohadnjkiaaRefBoxW
import Derived.Test.YtiknfohadnjkiaaRefChunkW
import Derived.Test.YtiknfohadnjkiaaRowN
import Derived.Test.YtiknfohadnjkiaaRows
import Derived.BigQuiet
import Derived.Deep.QuietTactic
import Derived.Deep.RegionHeld3
import Derived.Lib.Hide
import Derived.Outline
import Derived.WalkKit
import Derived.WalkLawsBesides
import Derived.WalkSpells
set_option linter.unusedVariables false
namespace Go.Proofs.Ytiknfohadnjkiaa
open Go.RowKit

theorem cutP_len (s : List UInt8) (size : Int) : (cutP s size).length ≤ 4096 := by
  unfold cutP
  split
  · exact Nat.zero_le _
  · rename_i h
    rw [partsL_len]
    unfold cutE at h
    by_cases c1 : size < 1
    · rw [if_pos c1] at h; exact absurd (show (1 : Int) ≠ 0 by decide) h
    · rw [if_neg c1] at h
      by_cases c2 : 524288 < s.length
      · rw [if_pos c2] at h; exact absurd (show (4 : Int) ≠ 0 by decide) h
      · rw [if_neg c2] at h
        by_cases c3 : 4096 < (cutL size.toNat s).length
        · rw [if_pos c3] at h; exact absurd (show (7 : Int) ≠ 0 by decide) h
        · omega
set_option maxRecDepth 100000 in
set_option maxHeartbeats 4000000 in
theorem chunkCuts_walk_of (CU : CutC) (s : List UInt8) (size : Int) (hz : I64 size) (w : World) (hs : s.length ≤ 140737488351232) :
    Calls Try.prog 3 #[.string ⟨s.toArray⟩, .int .i64 size] w fun e w' => e = .returned (.bool true) ∧ Below w.heap.size w w' := by
  have SA := Lib.hid (show (⟨s.toArray⟩ : ByteArray).size = s.length from rfl)
  go_enter Try.func3, Try.ntmps3
  by_cases h2 : 20000 < s.length
  · have j1 : (20000 : Int) < (s.length : Int) := by omega
    have x1 : (⟨s.toArray⟩ : ByteArray).extract 0 20000 = ⟨(s.take 20000).toArray⟩ := take_toArray s 20000
    obtain ⟨T, hT⟩ : ∃ T, T = s.take 20000 := ⟨_, rfl⟩
    have hTl : T.length ≤ 20000 := by rw [hT]; rw [List.length_take]; omega
    rw [← hT] at x1
    clear hT
    have C1 := Lib.hid (CU T size w (by omega) hz)
    go_wp2_with fail
    refine C1.out.mono ?_
    rintro e w1 ⟨v1, rfl, ho1, hb1⟩
    have HO1 := Lib.hid (OwnN.row encPt_ok ho1)
    obtain ⟨a1, c1, hv1, _⟩ := HO1.out.slice
    subst hv1
    have HB1 := Lib.hid hb1
    clear ho1 hb1 C1
    have C2 := Lib.hid (refCut13_any T size w1 (by omega) hz)
    go_wp2_with fail
    refine C2.out.mono ?_
    rintro e w2 ⟨v2, rfl, ho2, hb2⟩
    have HO2 := Lib.hid (OwnN.row encPt_ok ho2)
    obtain ⟨a2, c2, hv2, _⟩ := HO2.out.slice
    subst hv2
    have HB2 := Lib.hid (HB1.out.trans (hb2.mono HB1.out.size))
    have PT := Lib.hid (refParts13_same _ _ (cutP T size) w2 (HO1.out.keep hb2) HO2.out (by have := cutP_len T size; omega))
    have q1 : (cutE T size == cutE T size) = true := by simp
    clear ho2 hb2 C2 HO1 HO2 HB1
    go_wp2_with fail
    refine PT.out.mono ?_
    rintro e w3 ⟨rfl, hb3⟩
    have HB3 := Lib.hid (HB2.out.trans (hb3.mono HB2.out.size))
    clear hb3 PT HB2
    go_wp2_with fail
    refine (awake13_any CU _).mono ?_
    rintro e w9 ⟨rfl, hb9⟩
    have HB9 := Lib.hid (HB3.out.trans (hb9.mono HB3.out.size))
    clear hb9
    go_wp2_with fail
    go_ret
    exact ⟨rfl, HB9.out⟩
  · have j1 : ¬ (20000 : Int) < (s.length : Int) := by omega
    obtain ⟨T, hT⟩ : ∃ T, T = s := ⟨_, rfl⟩
    have hTl : T.length ≤ 20000 := by rw [hT]; omega
    rw [← hT] at j1 SA ⊢
    clear hT
    have C1 := Lib.hid (CU T size w (by omega) hz)
    go_wp2_with fail
    refine C1.out.mono ?_
    rintro e w1 ⟨v1, rfl, ho1, hb1⟩
    have HO1 := Lib.hid (OwnN.row encPt_ok ho1)
    obtain ⟨a1, c1, hv1, _⟩ := HO1.out.slice
    subst hv1
    have HB1 := Lib.hid hb1
    clear ho1 hb1 C1
    have C2 := Lib.hid (refCut13_any T size w1 (by omega) hz)
    go_wp2_with fail
    refine C2.out.mono ?_
    rintro e w2 ⟨v2, rfl, ho2, hb2⟩
    have HO2 := Lib.hid (OwnN.row encPt_ok ho2)
    obtain ⟨a2, c2, hv2, _⟩ := HO2.out.slice
    subst hv2
    have HB2 := Lib.hid (HB1.out.trans (hb2.mono HB1.out.size))
    have PT := Lib.hid (refParts13_same _ _ (cutP T size) w2 (HO1.out.keep hb2) HO2.out (by have := cutP_len T size; omega))
    have q1 : (cutE T size == cutE T size) = true := by simp
    clear ho2 hb2 C2 HO1 HO2 HB1
    go_wp2_with fail
    refine PT.out.mono ?_
    rintro e w3 ⟨rfl, hb3⟩
    have HB3 := Lib.hid (HB2.out.trans (hb3.mono HB2.out.size))
    clear hb3 PT HB2
    go_wp2_with fail
    refine (awake13_any CU _).mono ?_
    rintro e w9 ⟨rfl, hb9⟩
    have HB9 := Lib.hid (HB3.out.trans (hb9.mono HB3.out.size))
    clear hb9
    go_wp2_with fail
    go_ret
    exact ⟨rfl, HB9.out⟩
end Go.Proofs.Ytiknfohadnjkiaa
