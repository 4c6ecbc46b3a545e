/- Texts: made and read. -/
import Derived.Test.YtjlhhnkfedfdnaaAwake
import Derived.Test.YtjlhhnkfedfdnaaCodeMath
import Derived.Test.YtjlhhnkfedfdnaaGen
import Derived.Test.YtjlhhnkfedfdnaaReadMath
import Derived.Test.YtjlhhnkfedfdnaaReadW
import Derived.Test.YtjlhhnkfedfdnaaRoundTrip
import Derived.Test.YtjlhhnkfedfdnaaRows
import Derived.BigQuiet
import Derived.Lib.Hide
import Derived.WalkKit
import Derived.WalkLawsBesides
import Derived.WalkSpells
set_option linter.unusedVariables false
namespace Go.Proofs.Ytjlhhnkfedfdnaa
open Go.RowKit

/-- A text's bytes. -/
def tb (l : List UInt8) : List UInt8 := nb l.length ++ l

theorem rText_tb (l t : List UInt8) (h : l.length ≤ 4611686018427387903) (most : Int) (hm : (l.length : Int) ≤ most) : rText ⟨tb l ++ t, 0⟩ most = (l, (⟨t, 0⟩ : RS)) := by
  have h1 : rNum ⟨tb l ++ t, 0⟩ = ((l.length : Int), (⟨l ++ t, 0⟩ : RS)) := by
    unfold tb; rw [List.append_assoc]; exact rNum_nb _ _ h
  have h2 : rCount ⟨tb l ++ t, 0⟩ most = ((l.length : Int), (⟨l ++ t, 0⟩ : RS)) := by
    unfold rCount; rw [h1, if_neg (by simpa using hm), if_neg (by simp)]
  unfold rText
  rw [h2, rRaw_all _ _ rfl (by simp)]
  simp





theorem refBytes_ok (n : Nat) (w : World) (hn : n ≤ 4611686018427387903) :
    Calls Try.prog 24 #[.int .i64 n] w fun e w' => e = .returned (.string ⟨(nb n).toArray⟩) ∧ Below w.heap.size w w' := by
  have Hn := Lib.hid (refNum_ok n w hn)
  go_enter Try.func24, Try.ntmps24
  go_wp2_with fail
  refine Hn.out.mono ?_
  rintro e w1 ⟨rfl, hb⟩
  go_wp2
  go_ret
  exact ⟨rfl, hb⟩



theorem empty_app (t : List UInt8) : (⟨#[]⟩ : ByteArray) ++ ⟨t.toArray⟩ = ⟨t.toArray⟩ := by
  have := ByteArray.mk_append_mk [] t
  simpa using this
theorem str_self (l : List UInt8) : (l == l) = true := by simp

end Go.Proofs.Ytjlhhnkfedfdnaa
