/- The walk of ImageTrees. -/
import Derived.Test.YtfgimhgkjodcgaaDoorFrame
import Derived.Test.YtfgimhgkjodcgaaDoorGen
import Derived.Test.YtfgimhgkjodcgaaDoorBdX
import Derived.Test.YtfgimhgkjodcgaaDoorMeX
import Derived.Test.YtfgimhgkjodcgaaDoorImgMath
import Derived.Test.YtfgimhgkjodcgaaDoorMarkMath
import Derived.Test.YtfgimhgkjodcgaaDoorOwnL
import Derived.Test.YtfgimhgkjodcgaaDoorProg
import Derived.Test.YtfgimhgkjodcgaaDoorReadW
import Derived.Test.YtfgimhgkjodcgaaDoorRefSortW
import Derived.Test.YtfgimhgkjodcgaaDoorTrX
import Derived.Test.YtfgimhgkjodcgaaDoorRowN
import Derived.Test.YtfgimhgkjodcgaaDoorRows
import Derived.Test.YtfgimhgkjodcgaaDoorShelf
import Derived.Test.YtfgimhgkjodcgaaDoorSoX
import Derived.Test.YtfgimhgkjodcgaaDoorTmX
import Derived.Test.YtfgimhgkjodcgaaDoorTlX
import Derived.BigQuiet
import Derived.BigRegion
import Derived.ChangeAlike
import Derived.Deep.Cut
import Derived.Deep.CutBlock
import Derived.Deep.CutRange
import Derived.Deep.DeepCutAuto
import Derived.Deep.QuietTactic
import Derived.Deep.RegionHeld
import Derived.Deep.Slices
import Derived.Deep.Strs
import Derived.Laws.Externs
import Derived.Laws.RangeAny
import Derived.Laws.ResultCell
import Derived.Lib.AppendStr
import Derived.Lib.Builder
import Derived.Lib.Hide
import Derived.Lib.SmallJoins
import Derived.Lib.Strings
import Derived.Lib.Walk
import Derived.LoopIn
import Derived.LoopNIn
import Derived.LoopTactic
import Derived.Outline
import Derived.OwnWalkIn
import Derived.RangeFuncBound
import Derived.RangeFuncCalls
import Derived.RangeFuncLeaves
import Derived.RangeFuncNested
import Derived.RegionTactic
import Derived.Shelf.Abstract
import Derived.Shelf.RegionOpen
import Derived.StillTail
import Derived.TacticsInMore
import Derived.WalkKit
import Derived.WalkLawsBesides
import Derived.WalkSpells
set_option linter.unusedVariables false
namespace Go.Proofs.YtfgimhgkjodcgaaDoor
open Go.RowKit

set_option maxRecDepth 100000 in
set_option maxHeartbeats 1000000 in
theorem imageTrees_walk (s : Txt) (hs : s.length ≤ 140737488351232) (w : World) :
    Calls Tryd.prog 5 #[.string ⟨s.toArray⟩] w fun e w' => e = .returned (.bool true) ∧ Below w.heap.size w w' := by
  have CT := Lib.hid (cut10_any s w hs)
  have hl : (s.take 20000).length ≤ 20000 := List.length_take_le _ _
  generalize s.take 20000 = t at *
  have B1 := Lib.hid (fun w' => iTree_any t w' (by omega))
  have B2 := Lib.hid (fun w' => refTreeI_any t w' (by omega))
  have hfl := (treeS_ok t).2
  generalize treeS t = res at *
  obtain ⟨l, oe⟩ := res
  dsimp only at hfl
  have q1 : (oe == oe) = true := by simp
  go_enter Tryd.func5, Tryd.ntmps5
  go_wp2_with fail
  refine CT.out.mono ?_
  rintro e w0 ⟨rfl, rfl⟩
  clear CT
  go_wp2_with fail
  refine (B1.out _).mono ?_
  rintro e w1 ⟨v1, rfl, hr1, hb1⟩
  obtain ⟨va1, vc1, rfl, _⟩ := hr1.slice
  have R1 := Lib.hid hr1
  have K1 := Lib.hid hb1
  clear hr1 hb1 B1
  go_wp2_with fail
  refine (B2.out _).mono ?_
  rintro e w2 ⟨v2, rfl, hr2, hb2⟩
  obtain ⟨va2, vc2, rfl, _⟩ := hr2.slice
  have R2 := Lib.hid hr2
  have R1b := Lib.hid (R1.out.keep hb2)
  have K2 := Lib.hid (K1.out.trans (hb2.mono K1.out.size))
  clear hr2 hb2 B2 R1 K1
  go_wp2_with fail
  refine (filesEq_any _ _ _ _ _ _ R1b.out R2.out (by omega)).mono ?_
  rintro e w4 ⟨rfl, hb4⟩
  have K4 := Lib.hid (K2.out.trans (hb4.mono K2.out.size))
  clear hb4
  go_wp2_with fail
  refine (awake10_any _).mono ?_
  rintro e w6 ⟨rfl, hb6⟩
  go_wp2_with fail
  go_ret
  exact ⟨rfl, K4.out.trans (hb6.mono K4.out.size)⟩
end Go.Proofs.YtfgimhgkjodcgaaDoor
