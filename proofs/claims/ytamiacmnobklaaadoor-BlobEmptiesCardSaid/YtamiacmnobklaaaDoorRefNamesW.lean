/- The document's Names, name, Path. -/
import Derived.Test.YtamiacmnobklaaaDoorMarkMath
import Derived.Test.YtamiacmnobklaaaDoorRowN
import Derived.Test.YtamiacmnobklaaaDoorRows
import Derived.Test.YtamiacmnobklaaaDoorTreeMath
import Derived.BigQuiet
import Derived.Deep.Draws
import Derived.Deep.QuietTactic
import Derived.Laws.Bits128
import Derived.Laws.IdiomStrings
import Derived.Lib.AppendStr
import Derived.Lib.Hide
import Derived.OpenShut
import Derived.ProofKit
import Derived.ShutString
import Derived.SizedLaws
import Derived.SliceStrings
import Derived.WalkKit
import Derived.WalkLawsBesides
import Derived.WalkSpells
set_option linter.unusedVariables false
namespace Go.Proofs.YtamiacmnobklaaaDoor
open Go.RowKit

def strE (l : Txt) : Value := .string ⟨l.toArray⟩
theorem all_at (s : Txt) (i : Nat) (h : i < s.length) : (s.drop i).all okC = (okC s[i] && (s.drop (i + 1)).all okC) := by
  rw [List.drop_eq_getElem_cons h]; rfl
theorem alln_at (l : List Txt) (i : Nat) (h : i < l.length) : (l.drop i).all nameS = (nameS l[i] && (l.drop (i + 1)).all nameS) := by
  rw [List.drop_eq_getElem_cons h]; rfl
theorem namesG_le : ∀ (t cur : Txt), ∀ x ∈ namesG cur t, x.length ≤ cur.length + t.length
  | [], cur, x, hx => by simp [namesG] at hx; subst hx; simp
  | c :: t, cur, x, hx => by
    unfold namesG at hx
    split at hx
    · simp at hx
      rcases hx with rfl | hx
      · omega
      · have := namesG_le t [] x hx; simp at *; omega
    · have := namesG_le t (cur ++ [c]) x hx; simp at *; omega
end Go.Proofs.YtamiacmnobklaaaDoor
