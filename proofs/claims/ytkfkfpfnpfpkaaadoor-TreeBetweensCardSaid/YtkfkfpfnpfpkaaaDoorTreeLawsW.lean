/- The laws' awake, sign, few; the walks of TreePaths, TreeChecks. -/
import Derived.Test.YtkfkfpfnpfpkaaaDoorArgTree
import Derived.Test.YtkfkfpfnpfpkaaaDoorArgs3
import Derived.Test.YtkfkfpfnpfpkaaaDoorFrame
import Derived.Test.YtkfkfpfnpfpkaaaDoorGen
import Derived.Test.YtkfkfpfnpfpkaaaDoorMarkMath
import Derived.Test.YtkfkfpfnpfpkaaaDoorMatchMath
import Derived.Test.YtkfkfpfnpfpkaaaDoorOwnL
import Derived.Test.YtkfkfpfnpfpkaaaDoorProg
import Derived.Test.YtkfkfpfnpfpkaaaDoorReadW
import Derived.Test.YtkfkfpfnpfpkaaaDoorRefNamesW
import Derived.Test.YtkfkfpfnpfpkaaaDoorRowN
import Derived.Test.YtkfkfpfnpfpkaaaDoorRows
import Derived.Test.YtkfkfpfnpfpkaaaDoorShelf
import Derived.Test.YtkfkfpfnpfpkaaaDoorTreeMath
import Derived.Test.YtkfkfpfnpfpkaaaDoorTreeW
import Derived.BigQuiet
import Derived.BigRegion
import Derived.Deep.Cut
import Derived.Deep.CutRange
import Derived.Deep.DeepCutAuto
import Derived.Deep.QuietTactic
import Derived.Deep.RegionHeld
import Derived.Laws.IdiomStrings
import Derived.Laws.OwnMore
import Derived.Laws.RangeAny
import Derived.Lib.Hide
import Derived.LoopIn
import Derived.LoopNIn
import Derived.LoopTactic
import Derived.OwnWalkIn
import Derived.RangeFuncBound
import Derived.RangeFuncCalls
import Derived.RangeFuncLeaves
import Derived.RangeFuncNested
import Derived.Shelf.Abstract
import Derived.Shelf.RegionOpen
import Derived.Shelf.Strings.SplitCore
import Derived.TacticsInMore
import Derived.WalkKit
import Derived.WalkLawsBesides
import Derived.WalkSpells
set_option linter.unusedVariables false
namespace Go.Proofs.YtkfkfpfnpfpkaaaDoor
open Go.RowKit

def p1 : Txt := [97, 47, 98]
def p2 : Txt := [97, 45, 98]
def m1 : Txt := [97, 47, 42, 42, 47, 99, 63]
def m2 : Txt := [97, 47, 98, 47, 98, 47, 99, 100]
theorem ord_12 : ordS p1 p2 = -1 := by decide +kernel
theorem match_12 : matchS m1 m2 = true := by decide +kernel
theorem match_no : matchS [42] p1 = false := by decide +kernel
def ab : List FileD := [⟨[97], 0, []⟩, ⟨p1, 0, []⟩]
theorem check_ab : checkS ab = 9 := by decide +kernel
theorem sgn_neg {n : Int} (h : sgn n = -1) : n < 0 := by
  unfold sgn at h
  by_cases h1 : n < 0
  · exact h1
  · rw [if_neg h1] at h
    by_cases h2 : 0 < n
    · rw [if_pos h2] at h; exact absurd h (by decide)
    · rw [if_neg h2] at h; exact absurd h (by decide)
theorem ab_row (w : World) : RowN encF 3 (fun _ => True) (w.alloc (.cells (flatN encF ab).toArray 42)) (.slice (some ⟨w.heap.size, 0, none⟩) 2 2) ab := by
  refine ⟨some ⟨w.heap.size, 0, none⟩, 2, rfl, by decide, fun i hi => ⟨w.heap.size, 0, rfl, trivial, fun r u hu => ?_⟩⟩
  rw [cell_of_row _ _ _ _ _ _ (heap_alloc_new _ _), Nat.zero_add, List.getElem?_toArray]
  have hr : r < 3 := by rw [← encF_ok.len ab[i]]; exact (List.getElem?_eq_some_iff.1 hu).1
  rw [flatN_get encF_ok ab i hi r hr]
  exact hu
theorem ab_ok : ∀ x ∈ ab, FileOk x := by
  intro x hx
  simp [ab] at hx
  rcases hx with rfl | rfl <;> exact ⟨by simp [p1], by simp, by simp⟩
set_option maxRecDepth 100000 in
set_option maxHeartbeats 1000000 in
theorem awake9_any (w : World) : Calls Tryd.prog 16 #[] w fun e w' => e = .returned (.bool true) ∧ Below w.heap.size w w' := by
  have OR := Lib.hid (tOrder_any p1 p2 w (by decide) (by decide))
  have M1 := fun w' => Lib.hid (tMatch_any m1 m2 w' (by decide) (by decide))
  have M2 := fun w' => Lib.hid (tMatch_any [42] p1 w' (by decide) (by decide))
  have CK := fun (w' : World) => Lib.hid (tCheck_any _ ab (w'.alloc (.cells (flatN encF ab).toArray 42)) (ab_row w') ab_ok (by decide))
  rw [match_12] at M1
  rw [match_no] at M2
  rw [check_ab] at CK
  go_enter Tryd.func16, Tryd.ntmps16
  go_wp2_with fail
  refine OR.out.mono ?_
  rintro e w1 ⟨n, rfl, hn, hb1⟩
  have j := sgn_neg (hn.trans ord_12)
  have HB1 := Lib.hid hb1
  clear hn hb1 OR
  go_wp2_with fail
  refine (M1 _).out.mono ?_
  rintro e w2 ⟨rfl, hb2⟩
  have HB2 := Lib.hid (HB1.out.trans (hb2.mono HB1.out.size))
  clear hb2 HB1 M1
  go_wp2_with fail
  refine (M2 _).out.mono ?_
  rintro e w3 ⟨rfl, hb3⟩
  have HB3 := Lib.hid (HB2.out.trans (hb3.mono HB2.out.size))
  clear hb3 HB2 M2
  go_wp2_with fail
  refine (CK w3).out.mono ?_
  rintro e w4 ⟨rfl, hb4⟩
  have HB4 := Lib.hid ((HB3.out.alloc HB3.out.size (.cells (flatN encF ab).toArray 42)).trans (hb4.mono (by have := HB3.out.size; simp; omega)))
  clear hb4
  go_wp2_with fail
  go_ret
  exact ⟨rfl, HB4.out⟩
set_option maxRecDepth 100000 in
theorem treePaths_walk (s : Txt) (hs : s.length ≤ 140737488351232) (w : World) :
    Calls Tryd.prog 3 #[.string ⟨s.toArray⟩] w fun e w' => e = .returned (.bool true) ∧ Below w.heap.size w w' := by
  have PA := Lib.hid (tPath_any s w hs)
  have RA := fun w' => Lib.hid (refPath_any s w' hs)
  generalize pathS s = pe at *
  have hpp : (pe == pe) = true := by simp
  go_enter Tryd.func3, Tryd.ntmps3
  go_wp2_with fail
  refine PA.out.mono ?_
  rintro e w1 ⟨rfl, hb1⟩
  have HB1 := Lib.hid hb1
  clear hb1
  go_wp2_with fail
  refine (RA _).out.mono ?_
  rintro e w2 ⟨rfl, hb2⟩
  have HB2 := Lib.hid (HB1.out.trans (hb2.mono HB1.out.size))
  clear hb2
  go_wp2_with fail
  refine (awake9_any _).mono ?_
  rintro e w3 ⟨rfl, hb3⟩
  have HB3 := Lib.hid (HB2.out.trans (hb3.mono HB2.out.size))
  go_wp2_with fail
  go_ret
  exact ⟨rfl, HB3.out⟩
end Go.Proofs.YtkfkfpfnpfpkaaaDoor
