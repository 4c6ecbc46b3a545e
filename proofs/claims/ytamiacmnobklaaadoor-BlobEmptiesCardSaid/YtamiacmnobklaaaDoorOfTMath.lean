/- Reading a manifest: the mathematics, and the text of the document's reader. -/
import Derived.Test.YtamiacmnobklaaaDoorMarkMath
import Derived.Test.YtamiacmnobklaaaDoorCdX
import Derived.Test.YtamiacmnobklaaaDoorRowN
import Derived.Test.YtamiacmnobklaaaDoorRows
import Derived.Test.YtamiacmnobklaaaDoorTreeMath
import Derived.BigQuiet
import Derived.Deep.CutBlock
import Derived.Deep.DeepCutAuto
import Derived.Deep.Draws
import Derived.Deep.QuietTactic
import Derived.Laws.Bits128
import Derived.Laws.IdiomStrings
import Derived.Lib.AppendStr
import Derived.Lib.Hide
import Derived.OpenShut
import Derived.ProofKit
import Derived.ShutString
import Derived.SizedLaws
import Derived.SliceStrings
import Derived.WalkKit
import Derived.WalkLawsBesides
import Derived.WalkSpells
set_option linter.unusedVariables false
namespace Go.Proofs.YtamiacmnobklaaaDoor
open Go.RowKit

/-- What of one item is read: how much is shared, the rest, mode, size, mark; and the reader behind it. -/
structure OneR where
  n : Int
  rest : Txt
  mode : Int
  size : Int
  mark : Txt
  r : RS
def oneR (r : RS) : OneR :=
  let c := rCount r 200
  let t := rText c.2 200
  let m := rNum t.2
  let z := rNum m.2
  let k := rRaw z.2 32
  ⟨c.1, t.1, m.1, z.1, k.1, k.2⟩
/-- May an item share so much with the path ahead? -/
def shareBad (last : Txt) (n : Int) (rest : Txt) : Prop := (last.length : Int) < n ∨ (sharedS last (last.take n.toNat ++ rest) : Int) ≠ n
instance (last : Txt) (n : Int) (rest : Txt) : Decidable (shareBad last n rest) := by unfold shareBad; infer_instance
def ofF : Nat → RS → Txt → List ItemD → List ItemD × Int × RS
  | 0, r, _, out => (out, 0, r)
  | k + 1, r, last, out =>
    let x := oneR r
    if x.r.e ≠ 0 then ([], x.r.e, x.r) else
    if shareBad last x.n x.rest then ([], 5, x.r) else
    ofF k x.r (last.take x.n.toNat ++ x.rest) (out ++ [⟨last.take x.n.toNat ++ x.rest, x.mode, x.size, x.mark⟩])
def ofEnd (l : List ItemD) (e : Int) (r : RS) : List ItemD × Int :=
  if e ≠ 0 then ([], e) else if (rEnd r).e ≠ 0 then ([], (rEnd r).e) else if rightS l ≠ 0 then ([], rightS l) else (l, 0)
def ofS (s : Txt) : List ItemD × Int :=
  ofEnd (ofF (rCount ⟨s, 0⟩ 256).1.toNat (rCount ⟨s, 0⟩ 256).2 [] []).1 (ofF (rCount ⟨s, 0⟩ 256).1.toNat (rCount ⟨s, 0⟩ 256).2 [] []).2.1 (ofF (rCount ⟨s, 0⟩ 256).1.toNat (rCount ⟨s, 0⟩ 256).2 [] []).2.2
end Go.Proofs.YtamiacmnobklaaaDoor
