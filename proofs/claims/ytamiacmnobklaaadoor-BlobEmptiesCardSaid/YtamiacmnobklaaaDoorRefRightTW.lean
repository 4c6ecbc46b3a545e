/- The document's Right. -/
import Derived.Test.YtamiacmnobklaaaDoorRowN
import Derived.Test.YtamiacmnobklaaaDoorRows
import Derived.Test.YtamiacmnobklaaaDoorTreeMath
import Derived.BigQuiet
import Derived.Deep.Cut
import Derived.Deep.CutRange
import Derived.Deep.DeepCutAuto
import Derived.Deep.Draws
import Derived.Deep.QuietTactic
import Derived.Deep.Slices
import Derived.Deep.Strs
import Derived.Laws.Bits128
import Derived.Laws.IdiomStrings
import Derived.Lib.AppendStr
import Derived.Lib.Hide
import Derived.Lib.SmallJoins
import Derived.OpenShut
import Derived.ProofKit
import Derived.ShutString
import Derived.SizedLaws
import Derived.SliceStrings
import Derived.WalkKit
import Derived.WalkLawsBesides
import Derived.WalkSpells
set_option linter.unusedVariables false
namespace Go.Proofs.YtamiacmnobklaaaDoor
open Go.RowKit

theorem ElAt.i0 {w : World} {g o : Nat} {x : ItemD} (h : ElAt encI w g o x) : w.cell? ⟨g, o, none⟩ = some (.string ⟨x.path.toArray⟩) := h 0 _ rfl
theorem ElAt.i1 {w : World} {g o : Nat} {x : ItemD} (h : ElAt encI w g o x) : w.cell? ⟨g, o + 1, none⟩ = some (.int .i64 x.mode) := h 1 _ rfl
theorem ElAt.i2 {w : World} {g o : Nat} {x : ItemD} (h : ElAt encI w g o x) : w.cell? ⟨g, o + 2, none⟩ = some (.int .i64 x.size) := h 2 _ rfl
theorem ElAt.i3 {w : World} {g o : Nat} {x : ItemD} (h : ElAt encI w g o x) : w.cell? ⟨g, o + 3, none⟩ = some (.string ⟨x.mark.toArray⟩) := h 3 _ rfl
end Go.Proofs.YtamiacmnobklaaaDoor
