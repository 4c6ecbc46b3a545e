/- Landed tree: picked (the files that are wanted, in memory of their own), walked. -/
import Derived.Test.YtamiacmnobklaaaGreatDoorFrame
import Derived.Test.YtamiacmnobklaaaGreatDoorGen
import Derived.Test.YtamiacmnobklaaaGreatDoorMarkMath
import Derived.Test.YtamiacmnobklaaaGreatDoorOwnL
import Derived.Test.YtamiacmnobklaaaGreatDoorProg
import Derived.Test.YtamiacmnobklaaaGreatDoorCdX
import Derived.Test.YtamiacmnobklaaaGreatDoorRowN
import Derived.Test.YtamiacmnobklaaaGreatDoorRows
import Derived.Test.YtamiacmnobklaaaGreatDoorShelf
import Derived.BigQuiet
import Derived.BigRegion
import Derived.ChangeAlike
import Derived.Deep.Cut
import Derived.Deep.CutRange
import Derived.Deep.DeepCutAuto
import Derived.Deep.QuietTactic
import Derived.Deep.RegionHeld
import Derived.Deep.Slices
import Derived.Deep.Strs
import Derived.Laws.RangeAny
import Derived.Lib.Hide
import Derived.Lib.SmallJoins
import Derived.LoopIn
import Derived.LoopNIn
import Derived.LoopTactic
import Derived.OwnWalkIn
import Derived.RangeFuncBound
import Derived.RangeFuncCalls
import Derived.RangeFuncLeaves
import Derived.RangeFuncNested
import Derived.RegionTactic
import Derived.Shelf.Abstract
import Derived.Shelf.RegionOpen
import Derived.StillTail
import Derived.TacticsInMore
import Derived.WalkKit
import Derived.WalkLawsBesides
import Derived.WalkSpells
set_option linter.unusedVariables false
namespace Go.Proofs.YtamiacmnobklaaaGreatDoor
open Go.RowKit

set_option maxRecDepth 100000 in
theorem tclone_any (l : Txt) (w : World) (hl : l.length ≤ 140737488351232) :
    Calls Tryz.prog 42 #[.string ⟨l.toArray⟩] w fun e w' => e = .returned (.string ⟨l.toArray⟩) ∧ Below w.heap.size w w' := by
  have C := fun w' => Lib.hid (Tryz.stringslite_Clone ⟨l.toArray⟩ w' (by show l.length ≤ _; omega))
  go_enter Tryz.func42, Tryz.ntmps42
  go_wp2_with fail
  refine (C _).out.mono ?_
  rintro e w1 ⟨rfl, hb⟩
  go_wp2_with fail
  go_ret
  exact ⟨rfl, hb⟩
end Go.Proofs.YtamiacmnobklaaaGreatDoor
