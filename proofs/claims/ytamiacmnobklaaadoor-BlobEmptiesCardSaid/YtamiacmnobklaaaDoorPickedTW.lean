/- Landed tree: picked (the files that are wanted, in memory of their own), walked. -/
import Derived.Test.YtamiacmnobklaaaDoorFrame
import Derived.Test.YtamiacmnobklaaaDoorGen
import Derived.Test.YtamiacmnobklaaaDoorMarkMath
import Derived.Test.YtamiacmnobklaaaDoorOwnL
import Derived.Test.YtamiacmnobklaaaDoorProg
import Derived.Test.YtamiacmnobklaaaDoorCdX
import Derived.Test.YtamiacmnobklaaaDoorRowN
import Derived.Test.YtamiacmnobklaaaDoorRows
import Derived.Test.YtamiacmnobklaaaDoorShelf
import Derived.BigQuiet
import Derived.BigRegion
import Derived.ChangeAlike
import Derived.Deep.Cut
import Derived.Deep.CutRange
import Derived.Deep.DeepCutAuto
import Derived.Deep.QuietTactic
import Derived.Deep.RegionHeld
import Derived.Deep.Slices
import Derived.Deep.Strs
import Derived.Laws.RangeAny
import Derived.Lib.Hide
import Derived.Lib.SmallJoins
import Derived.LoopIn
import Derived.LoopNIn
import Derived.LoopTactic
import Derived.OwnWalkIn
import Derived.RangeFuncBound
import Derived.RangeFuncCalls
import Derived.RangeFuncLeaves
import Derived.RangeFuncNested
import Derived.RegionTactic
import Derived.Shelf.Abstract
import Derived.Shelf.RegionOpen
import Derived.StillTail
import Derived.TacticsInMore
import Derived.WalkKit
import Derived.WalkLawsBesides
import Derived.WalkSpells
set_option linter.unusedVariables false
namespace Go.Proofs.YtamiacmnobklaaaDoor
open Go.RowKit

set_option maxRecDepth 100000 in
theorem tclone_any (l : Txt) (w : World) (hl : l.length ≤ 140737488351232) :
    Calls Tryd.prog 27 #[.string ⟨l.toArray⟩] w fun e w' => e = .returned (.string ⟨l.toArray⟩) ∧ Below w.heap.size w w' := by
  have C := fun w' => Lib.hid (Tryd.stringslite_Clone ⟨l.toArray⟩ w' (by show l.length ≤ _; omega))
  go_enter Tryd.func27, Tryd.ntmps27
  go_wp2_with fail
  refine (C _).out.mono ?_
  rintro e w1 ⟨rfl, hb⟩
  go_wp2_with fail
  go_ret
  exact ⟨rfl, hb⟩
end Go.Proofs.YtamiacmnobklaaaDoor
