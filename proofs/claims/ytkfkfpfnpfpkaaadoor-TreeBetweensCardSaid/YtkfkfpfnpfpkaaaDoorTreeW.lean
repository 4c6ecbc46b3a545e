/- The contracts of the landed tree that the laws name: Path, Order, Match, Check, Right, Pattern. -/
import Derived.Test.YtkfkfpfnpfpkaaaDoorArgTree
import Derived.Test.YtkfkfpfnpfpkaaaDoorCheckTW
import Derived.Test.YtkfkfpfnpfpkaaaDoorFrame
import Derived.Test.YtkfkfpfnpfpkaaaDoorGen
import Derived.Test.YtkfkfpfnpfpkaaaDoorMarkMath
import Derived.Test.YtkfkfpfnpfpkaaaDoorMatchMath
import Derived.Test.YtkfkfpfnpfpkaaaDoorMatchTW
import Derived.Test.YtkfkfpfnpfpkaaaDoorOrderTW
import Derived.Test.YtkfkfpfnpfpkaaaDoorOwnL
import Derived.Test.YtkfkfpfnpfpkaaaDoorPthX
import Derived.Test.YtkfkfpfnpfpkaaaDoorProg
import Derived.Test.YtkfkfpfnpfpkaaaDoorReadW
import Derived.Test.YtkfkfpfnpfpkaaaDoorRightTW
import Derived.Test.YtkfkfpfnpfpkaaaDoorRowN
import Derived.Test.YtkfkfpfnpfpkaaaDoorRows
import Derived.Test.YtkfkfpfnpfpkaaaDoorShelf
import Derived.Test.YtkfkfpfnpfpkaaaDoorTreeMath
import Derived.BigQuiet
import Derived.Deep.Cut
import Derived.Deep.CutRange
import Derived.Deep.DeepCutAuto
import Derived.Deep.QuietTactic
import Derived.Deep.RegionHeld
import Derived.Laws.IdiomStrings
import Derived.Laws.OwnMore
import Derived.Laws.RangeAny
import Derived.Lib.Hide
import Derived.LoopIn
import Derived.LoopNIn
import Derived.LoopTactic
import Derived.OwnWalkIn
import Derived.RangeFuncBound
import Derived.RangeFuncCalls
import Derived.RangeFuncLeaves
import Derived.RangeFuncNested
import Derived.Shelf.Abstract
import Derived.Shelf.RegionOpen
import Derived.TacticsInMore
import Derived.WalkKit
import Derived.WalkLawsBesides
import Derived.WalkSpells
set_option linter.unusedVariables false
namespace Go.Proofs.YtkfkfpfnpfpkaaaDoor
open Go.RowKit

/-- Below 0, 0, above. -/
def sgn (n : Int) : Int := if n < 0 then -1 else if 0 < n then 1 else 0
theorem sgn_ord (a b : Txt) : sgn (ordS a b) = ordS a b := by
  rcases ordS_range a b with h | h | h <;> rw [h] <;> rfl
theorem tPath_any (s : Txt) (w : World) (hs : s.length ≤ 140737488351232) :
    Calls Tryd.prog 14 #[.string ⟨s.toArray⟩] w fun e w' => e = .returned (.int .i64 (pathS s)) ∧ Below w.heap.size w w' := path_any s w hs
theorem tOrder_any (a b : Txt) (w : World) (ha : a.length ≤ 140737488351232) (hb : b.length ≤ 140737488351232) :
    Calls Tryd.prog 18 #[.string ⟨a.toArray⟩, .string ⟨b.toArray⟩] w fun e w' => ∃ n : Int, e = .returned (.int .i64 n) ∧ sgn n = ordS a b ∧ Below w.heap.size w w' :=
  (order_any a b w ha hb).mono fun e w' ⟨h1, h2⟩ => ⟨_, h1, sgn_ord a b, h2⟩
theorem tMatch_any (a b : Txt) (w : World) (ha : a.length ≤ 140737488351232) (hb : b.length ≤ 140737488351232) :
    Calls Tryd.prog 40 #[.string ⟨a.toArray⟩, .string ⟨b.toArray⟩] w fun e w' => e = .returned (.bool (matchS a b)) ∧ Below w.heap.size w w' := match_any a b w ha hb
theorem tCheck_any (v : Value) (xs : List FileD) (w : World) (hrow : RowN encF 3 (fun _ => True) w v xs) (hok : ∀ x ∈ xs, FileOk x) (hl : xs.length ≤ 10000) :
    Calls Tryd.prog 19 #[v] w fun e w' => e = .returned (.int .i64 (checkS xs)) ∧ Below w.heap.size w w' := check_any v xs w hrow hok (by omega)
theorem tRight_any (v : Value) (l : List ItemD) (w : World) (hrow : RowN encI 4 (fun _ => True) w v l) (hok : ∀ x ∈ l, ItemOk x) (hl : l.length ≤ 10000) :
    Calls Tryd.prog 28 #[v] w fun e w' => e = .returned (.int .i64 (rightS l)) ∧ Below w.heap.size w w' := right_any v l w hrow hok (by omega)
theorem tPattern_any (s : Txt) (w : World) (hs : s.length ≤ 140737488351232) :
    Calls Tryd.prog 38 #[.string ⟨s.toArray⟩] w fun e w' => e = .returned (.int .i64 (patternS s)) ∧ Below w.heap.size w w' := pattern_any s w hs
end Go.Proofs.YtkfkfpfnpfpkaaaDoor
