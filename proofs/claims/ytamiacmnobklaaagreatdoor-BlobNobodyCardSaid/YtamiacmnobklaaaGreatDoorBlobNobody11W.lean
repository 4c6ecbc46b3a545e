/- The walk of BlobNobody: blobs that nobody gave, or without a book. -/
import Derived.Test.YtamiacmnobklaaaGreatDoorArgTree
import Derived.Test.YtamiacmnobklaaaGreatDoorBldShelf
import Derived.Test.YtamiacmnobklaaaGreatDoorB1X
import Derived.Test.YtamiacmnobklaaaGreatDoorLwX
import Derived.Test.YtamiacmnobklaaaGreatDoorB2X
import Derived.Test.YtamiacmnobklaaaGreatDoorBlobNobodyW
import Derived.Test.YtamiacmnobklaaaGreatDoorFrame
import Derived.Test.YtamiacmnobklaaaGreatDoorGen
import Derived.Test.YtamiacmnobklaaaGreatDoorMarkMath
import Derived.Test.YtamiacmnobklaaaGreatDoorOwnL
import Derived.Test.YtamiacmnobklaaaGreatDoorProg
import Derived.Test.YtamiacmnobklaaaGreatDoorReadItW
import Derived.Test.YtamiacmnobklaaaGreatDoorCdX
import Derived.Test.YtamiacmnobklaaaGreatDoorRowN
import Derived.Test.YtamiacmnobklaaaGreatDoorRows
import Derived.Test.YtamiacmnobklaaaGreatDoorShelf
import Derived.Test.YtamiacmnobklaaaGreatDoorSortMath
import Derived.BigQuiet
import Derived.BigRegion
import Derived.ChangeAlike
import Derived.Deep.AppendLies
import Derived.Deep.Cut
import Derived.Deep.CutBlock
import Derived.Deep.CutRange
import Derived.Deep.DeepCutAuto
import Derived.Deep.QuietTactic
import Derived.Deep.RegionHeld
import Derived.Deep.RegionLaw
import Derived.IntWalk
import Derived.Laws.BitsAllLaws
import Derived.Laws.Externs
import Derived.Laws.IdiomStrings
import Derived.Laws.OwnMore
import Derived.Laws.RangeAny
import Derived.Laws.Rows
import Derived.Laws.Tables
import Derived.Lib.AppendStr
import Derived.Lib.Builder
import Derived.Lib.Hide
import Derived.Lib.SlicesS
import Derived.Lib.Strings
import Derived.Lib.Walk
import Derived.LoopIn
import Derived.LoopNIn
import Derived.LoopTactic
import Derived.Maps.OwnSet
import Derived.Maps.Views
import Derived.Outline
import Derived.OwnWalkIn
import Derived.RangeFuncBound
import Derived.RangeFuncCalls
import Derived.RangeFuncLeaves
import Derived.RangeFuncNested
import Derived.RegionTactic
import Derived.Shelf.Abstract
import Derived.Shelf.RegionOpen
import Derived.Shelf.Strings.SplitCore
import Derived.Sort.OwnSorted
import Derived.StillTail
import Derived.StillTailTactics
import Derived.TacticsInMore
import Derived.WalkKit
import Derived.WalkLawsBesides
import Derived.WalkSpells
set_option linter.unusedVariables false
namespace Go.Proofs.YtamiacmnobklaaaGreatDoor
open Go.RowKit

set_option maxRecDepth 100000 in
set_option maxHeartbeats 2000000 in
theorem blobNobody_walk (s : Txt) (hs : s.length ≤ 140737488351232) (v : Value) (w : World) (h : FsIn w v) :
    Calls Tryz.prog 7 #[.string ⟨s.toArray⟩, v] w fun e w' => e = .returned (.bool true) ∧ Below w.heap.size w w' := by
  clear h
  have N1 := fun w' => Lib.hid (bPut_nil w' s)
  have N2 := fun w' pb h => Lib.hid (bSave_bare w' pb h v)
  have N3 := fun w' pb h => Lib.hid (bGet_bare w' pb h s)
  have N4 := fun w' pb h => Lib.hid (bPack_bare w' pb h)
  have N5 := fun w' => Lib.hid (bUnpack_nil w' s)
  have N6 := fun w' => Lib.hid (bDrop_nil w' s)
  have N7 := fun w' pb h => Lib.hid (bForget_bare w' pb h s)
  have N8 := fun w' => Lib.hid (bCount_nil w')
  have N9 := fun w' pb h => Lib.hid (bBytes_bare w' pb h)
  have N10 := fun w' => Lib.hid (bRefs_nil w' s)
  have N11 := fun w' pb h => Lib.hid (bRoots_bare w' pb h)
  have N12 := fun w' pb h => Lib.hid (bCheck_bare w' pb h)
  go_enter Tryz.func7, Tryz.ntmps7
  go_wp2_with fail
  refine (bNew_nil _).mono ?_
  rintro e w1 ⟨pb, mt, rfl, hbox, hb1⟩
  have HBR := Lib.hid (show Bare w1 pb by unfold Bare; rw [cell_of_row _ _ _ _ _ _ hbox]; rfl)
  have HB1 := Lib.hid hb1
  clear hbox hb1
  go_wp2_with (first
    | (go_at_call 16; refine (N1 _).out.mono ?_; rintro e w' ⟨rfl, rfl⟩)
    | (go_at_call 14; refine (N2 _ _ HBR.out).out.mono ?_; rintro e w' ⟨rfl, rfl⟩)
    | (go_at_call 29; refine (N3 _ _ HBR.out).out.mono ?_; rintro e w' ⟨rfl, rfl⟩)
    | (go_at_call 24; refine (N4 _ _ HBR.out).out.mono ?_; rintro e w' ⟨rfl, rfl⟩)
    | (go_at_call 26; refine (N5 _).out.mono ?_; rintro e w' ⟨rfl, rfl⟩)
    | (go_at_call 19; refine (N6 _).out.mono ?_; rintro e w' ⟨rfl, rfl⟩)
    | (go_at_call 31; refine (N7 _ _ HBR.out).out.mono ?_; rintro e w' ⟨rfl, rfl⟩)
    | (go_at_call 27; refine (N8 _).out.mono ?_; rintro e w' ⟨rfl, rfl⟩)
    | (go_at_call 28; refine (N9 _ _ HBR.out).out.mono ?_; rintro e w' ⟨rfl, rfl⟩)
    | (go_at_call 23; refine (N10 _).out.mono ?_; rintro e w' ⟨rfl, rfl⟩)
    | (go_at_call 32; refine (N11 _ _ HBR.out).out.mono ?_; rintro e w' ⟨rfl, rfl⟩)
    | (go_at_call 11; refine (N12 _ _ HBR.out).out.mono ?_; rintro e w' ⟨rfl, rfl⟩)
    | (go_at_call 12; refine (awake11_any _).mono ?_; rintro e w9 ⟨rfl, hb9⟩; have HB9 := Lib.hid (HB1.out.trans (hb9.mono HB1.out.size)); clear hb9))
  go_ret
  exact ⟨rfl, HB9.out⟩
end Go.Proofs.YtamiacmnobklaaaGreatDoor
