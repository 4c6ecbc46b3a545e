/- Texts: made and read. -/
import Derived.Test.YtpkgjokehgihjaaGreatCdX
import Derived.Test.YtpkgjokehgihjaaGreatRows
import Derived.BigQuiet
import Derived.Deep.Draws
import Derived.Laws.Bits128
import Derived.Laws.IdiomStrings
import Derived.Lib.AppendStr
import Derived.Lib.Hide
import Derived.WalkKit
import Derived.WalkLawsBesides
import Derived.WalkSpells
set_option linter.unusedVariables false
namespace Go.Proofs.YtpkgjokehgihjaaGreat
open Go.RowKit

/-- A text's bytes. -/
def tb (l : List UInt8) : List UInt8 := nb l.length ++ l

theorem rText_tb (l t : List UInt8) (h : l.length ≤ 4611686018427387903) (most : Int) (hm : (l.length : Int) ≤ most) : rText ⟨tb l ++ t, 0⟩ most = (l, (⟨t, 0⟩ : RS)) := by
  have h1 : rNum ⟨tb l ++ t, 0⟩ = ((l.length : Int), (⟨l ++ t, 0⟩ : RS)) := by
    unfold tb; rw [List.append_assoc]; exact rNum_nb _ _ h
  have h2 : rCount ⟨tb l ++ t, 0⟩ most = ((l.length : Int), (⟨l ++ t, 0⟩ : RS)) := by
    unfold rCount; rw [h1, if_neg (by simpa using hm), if_neg (by simp)]
  unfold rText
  rw [h2, rRaw_all _ _ rfl (by simp)]
  simp








theorem empty_app (t : List UInt8) : (⟨#[]⟩ : ByteArray) ++ ⟨t.toArray⟩ = ⟨t.toArray⟩ := by
  have := ByteArray.mk_append_mk [] t
  simpa using this
theorem str_self (l : List UInt8) : (l == l) = true := by simp

end Go.Proofs.YtpkgjokehgihjaaGreat
