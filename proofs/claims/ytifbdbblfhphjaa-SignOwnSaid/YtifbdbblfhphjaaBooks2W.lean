/- Books that mark: the document's ideal one. -/
import Derived.Test.YtifbdbblfhphjaaBookW
import Derived.Test.YtifbdbblfhphjaaFrame
import Derived.Test.YtifbdbblfhphjaaGen
import Derived.Test.YtifbdbblfhphjaaMarkMath
import Derived.Test.YtifbdbblfhphjaaOwnL
import Derived.Test.YtifbdbblfhphjaaRefBookW
import Derived.Test.YtifbdbblfhphjaaRows
import Derived.Test.YtifbdbblfhphjaaShelf
import Derived.Test.YtifbdbblfhphjaaSigAt
import Derived.Test.YtifbdbblfhphjaaSignMath
import Derived.Test.YtifbdbblfhphjaaSignW
import Derived.Test.YtifbdbblfhphjaaWeak2W
import Derived.BigQuiet
import Derived.Deep.CutBlock
import Derived.Deep.DeepCutAuto
import Derived.Deep.QuietTactic
import Derived.Deep.RegionHeld3
import Derived.IntWalk
import Derived.Laws.BitsAllLaws
import Derived.Laws.Rows
import Derived.Laws.Tables
import Derived.Lib.Hide
import Derived.Outline
import Derived.StillTailTactics
import Derived.WalkKit
import Derived.WalkLawsBesides
import Derived.WalkSpells
set_option linter.unusedVariables false
namespace Go.Proofs.Ytifbdbblfhphjaa
open Go.RowKit

/-- The document's ideal book: its list, and the texts. -/
abbrev RefSt := Value × List Txt
def AtR (base q : Nat) (w : World) (s : RefSt) : Prop := RefAt w base q s.1 s.2 ∧ base ≤ w.heap.size
def FR (q : Nat) (s : RefSt) (k : Nat) : Prop := k = q ∨ s.1.ownBlock = some k
def nxR (s : RefSt) (t : Txt) (s' : RefSt) : Prop := s'.2 = markS s.2 t
def mkR (s : RefSt) (t : Txt) : Txt := numM (noS s.2 t)
def okR (n : Nat) (s : RefSt) : Prop := s.2.length + n ≤ 1000000
theorem book_ref (base q : Nat) : BookI 44 (.pointer (some ⟨q, 0, none⟩)) (AtR base q) (FR q) nxR mkR okR := by
  refine ⟨fun w s t n hat hok ht => ?_, fun w s k hat hk => ?_, fun w w' s M hat hk hM => ?_⟩
  · refine (refMark_any w base q s.1 s.2 t hat.1 (by unfold okR at hok; omega) hat.2).mono ?_
    rintro e w' ⟨v', rfl, h1, h2, h3⟩
    refine ⟨(v', markS s.2 t), rfl, rfl, by have := markS_length s.2 t; unfold okR at *; simp only; omega, ⟨h1, Nat.le_trans hat.2 h2.size⟩, h2, fun k hk => ?_⟩
    rcases hk with rfl | hk
    · exact .inl (.inl rfl)
    · rcases h3 k hk with h | h
      · exact .inl (.inr h)
      · exact .inr h
  · rcases hk with rfl | hk
    · exact hat.1.lt.1
    · exact (hat.1.lt.2 k hk).2
  · exact ⟨hat.1.kept hk (hM _ (.inl rfl)) (fun g hg => hM _ (.inr hg)), Nat.le_trans hat.2 hk.size⟩
theorem marked_ref {s0 s : RefSt} {ts ms : List Txt} (h : Marked nxR mkR s0 ts ms s) : Marked nxI mkI s0.2 ts ms s.2 := by
  induction h with
  | nil => exact .nil
  | snoc h1 h2 ih => exact ih.snoc h2
end Go.Proofs.Ytifbdbblfhphjaa
