/- The ideal book as one that marks: the program's. -/
import Derived.Test.YtpkgjokehgihjaaGreatBookW
import Derived.Test.YtpkgjokehgihjaaGreatFrame
import Derived.Test.YtpkgjokehgihjaaGreatGen
import Derived.Test.YtpkgjokehgihjaaGreatMarkMath
import Derived.Test.YtpkgjokehgihjaaGreatOwnL
import Derived.Test.YtpkgjokehgihjaaGreatRows
import Derived.Test.YtpkgjokehgihjaaGreatShelf
import Derived.Test.YtpkgjokehgihjaaGreatSigAt
import Derived.Test.YtpkgjokehgihjaaGreatSignMath
import Derived.Test.YtpkgjokehgihjaaGreatSignW
import Derived.Test.YtpkgjokehgihjaaGreatWkX
import Derived.BigQuiet
import Derived.Deep.QuietTactic
import Derived.IntWalk
import Derived.Laws.BitsAllLaws
import Derived.Laws.Rows
import Derived.Laws.Tables
import Derived.Lib.Hide
import Derived.Outline
import Derived.StillTailTactics
import Derived.WalkKit
import Derived.WalkLawsBesides
import Derived.WalkSpells
set_option linter.unusedVariables false
namespace Go.Proofs.YtpkgjokehgihjaaGreat
open Go.RowKit

def okI (n : Nat) (S : List Txt) : Prop := S.length + n ≤ 1000000
def FI (p bm : Nat) (_ : List Txt) (k : Nat) : Prop := k = p ∨ k = bm
theorem book_ideal (p bm : Nat) : BookI 24 (.pointer (some ⟨p, 0, none⟩)) (fun w S => IdealAt w p bm S) (FI p bm) nxI mkI okI := by
  refine ⟨fun w S t n hat hok ht => ?_, fun w S k hat hk => ?_, fun w w' S M hat hk hM => ?_⟩
  · refine (mark_ideal w p bm S t hat (by omega) (by unfold okI at hok; omega)).mono ?_
    rintro e w' ⟨rfl, h1, h2⟩
    exact ⟨markS S t, rfl, rfl, by have := markS_length S t; unfold okI at *; omega, h1, h2.mono (fun k _ h => .inr h), fun k h => .inl h⟩
  · rcases hk with rfl | rfl
    · exact hat.lt.1
    · exact hat.lt.2
  · exact hat.kept hk (hM _ (.inl rfl)) (hM _ (.inr rfl))
end Go.Proofs.YtpkgjokehgihjaaGreat
