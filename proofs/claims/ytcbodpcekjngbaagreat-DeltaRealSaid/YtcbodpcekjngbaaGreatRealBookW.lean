/- Real books: as ones that are asked, and the document's as one that is marked by. -/
import Derived.Test.YtcbodpcekjngbaaGreatBookW
import Derived.Test.YtcbodpcekjngbaaGreatRshX
import Derived.Test.YtcbodpcekjngbaaGreatCmpW
import Derived.Test.YtcbodpcekjngbaaGreatDelX
import Derived.Test.YtcbodpcekjngbaaGreatFrame
import Derived.Test.YtcbodpcekjngbaaGreatGen
import Derived.Test.YtcbodpcekjngbaaGreatRollX
import Derived.Test.YtcbodpcekjngbaaGreatMakeDW
import Derived.Test.YtcbodpcekjngbaaGreatMarkMath
import Derived.Test.YtcbodpcekjngbaaGreatTabX
import Derived.Test.YtcbodpcekjngbaaGreatShaX
import Derived.Test.YtcbodpcekjngbaaGreatOwnL
import Derived.Test.YtcbodpcekjngbaaGreatProg
import Derived.Test.YtcbodpcekjngbaaGreatBkX
import Derived.Test.YtcbodpcekjngbaaGreatRefX
import Derived.Test.YtcbodpcekjngbaaGreatRows
import Derived.Test.YtcbodpcekjngbaaGreatShelf
import Derived.Test.YtcbodpcekjngbaaGreatSigAt
import Derived.Test.YtcbodpcekjngbaaGreatSignW
import Derived.Test.YtcbodpcekjngbaaGreatSortX
import Derived.Test.YtcbodpcekjngbaaGreatWkX
import Derived.BigQuiet
import Derived.Deep.CutBlock
import Derived.Deep.CutRange
import Derived.Deep.DeepCutAuto
import Derived.Deep.LoopGhost
import Derived.Deep.QuietTactic
import Derived.Deep.RegionHeld3
import Derived.Deep.RegionLaw
import Derived.Deep.Slices
import Derived.IntWalk
import Derived.Laws.BitsAllLaws
import Derived.Laws.CopyRow
import Derived.Laws.IdiomCopy
import Derived.Laws.MakeOwn
import Derived.Laws.Rows
import Derived.Laws.Tables
import Derived.Lib.Hide
import Derived.Lib.SliceRun
import Derived.Lib.SmallJoins
import Derived.Outline
import Derived.Shelf.Abstract
import Derived.StillTail
import Derived.StillTailTactics
import Derived.WalkKit
import Derived.WalkLawsBesides
import Derived.WalkSpells
set_option linter.unusedVariables false
namespace Go.Proofs.YtcbodpcekjngbaaGreat
open Go.RowKit

def isRl (t m : Txt) : Bool := decide (realM t = m)
theorem ask_real (p kb : Nat) : AskI 1000000 p (fun w => RealAt w p kb) isRl :=
  ⟨fun h hb => h.new hb, fun w s m h hl => is_real w p kb s m h hl⟩
theorem one_real : OneM isRl := by
  intro t m m' h1 h2
  rw [← of_decide_eq_true h1, ← of_decide_eq_true h2]
def AtQ (q : Nat) (w : World) (_ : Unit) : Prop := RefRealAt w q
def FQu (q : Nat) (_ : Unit) (k : Nat) : Prop := k = q
theorem bookT_real (q : Nat) : BookT (.pointer (some ⟨q, 0, none⟩)) (AtQ q) (FQu q) (fun _ _ _ => True) (fun _ => realM) (fun _ _ => True) := by
  refine ⟨fun w0 s t w' s' h _ ht => ?_, fun _ _ => trivial, fun w s k h hk => ?_, fun w w' s M h hk hM => ?_⟩
  · refine (refMark_real w' q t h.at' (by omega)).mono ?_
    rintro e w'' ⟨rfl, hb⟩
    exact ⟨rfl, s', RefRealAt.new h.at' hb, trivial, h.kept.trans (Kept.new hb _), h.new⟩
  · have e : k = q := hk
    subst e
    exact (Array.getElem?_eq_some_iff.1 (show w.heap[k]? = _ from h)).1
  · exact hk.old h (hM q rfl)
theorem ty_real (q : Nat) : ∀ (w : World) (s : Unit) (k : Nat), AtQ q w s → FQu q s k → ∃ cs T fr, w.heap[k]? = some (.cells cs T fr) ∧ T ≠ 54 := by
  intro w s k h hk
  have e : k = q := hk
  subst e
  exact ⟨_, _, _, h, by decide⟩
def FPd (p kb : Nat) (_ : Unit) (k : Nat) : Prop := k = p ∨ k = kb
theorem book_realD (p kb : Nat) : BookI 31 (.pointer (some ⟨p, 0, none⟩)) (fun w (_ : Unit) => RealAt w p kb) (FPd p kb) (fun _ _ _ => True) (fun _ => realM) (fun _ _ => True) := by
  refine ⟨fun w s t n hat hok ht => ?_, fun w s k hat hk => ?_, fun w w' s M hat hk hM => ?_⟩
  · refine (mark_real w p kb t hat (by omega)).mono ?_
    rintro e w' ⟨rfl, hb⟩
    exact ⟨(), rfl, trivial, trivial, hat.new hb, Kept.new hb _, fun k h => .inl h⟩
  · rcases hk with rfl | rfl
    · exact hat.lt.1
    · exact hat.lt.2
  · exact hat.kept hk (hM _ (.inl rfl)) (hM _ (.inr rfl))
end Go.Proofs.YtcbodpcekjngbaaGreat
