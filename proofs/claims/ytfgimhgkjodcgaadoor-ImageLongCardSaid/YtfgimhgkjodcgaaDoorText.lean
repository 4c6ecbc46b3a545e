/- Texts: made and read. -/
import Derived.Test.YtfgimhgkjodcgaaDoorAwake
import Derived.Test.YtfgimhgkjodcgaaDoorCodeMath
import Derived.Test.YtfgimhgkjodcgaaDoorGen
import Derived.Test.YtfgimhgkjodcgaaDoorReadMath
import Derived.Test.YtfgimhgkjodcgaaDoorReadW
import Derived.Test.YtfgimhgkjodcgaaDoorRoundTrip
import Derived.Test.YtfgimhgkjodcgaaDoorRows
import Derived.BigQuiet
import Derived.Lib.Hide
import Derived.WalkKit
import Derived.WalkLawsBesides
import Derived.WalkSpells
set_option linter.unusedVariables false
namespace Go.Proofs.YtfgimhgkjodcgaaDoor
open Go.RowKit

/-- A text's bytes. -/
def tb (l : List UInt8) : List UInt8 := nb l.length ++ l

theorem rText_tb (l t : List UInt8) (h : l.length ≤ 4611686018427387903) (most : Int) (hm : (l.length : Int) ≤ most) : rText ⟨tb l ++ t, 0⟩ most = (l, (⟨t, 0⟩ : RS)) := by
  have h1 : rNum ⟨tb l ++ t, 0⟩ = ((l.length : Int), (⟨l ++ t, 0⟩ : RS)) := by
    unfold tb; rw [List.append_assoc]; exact rNum_nb _ _ h
  have h2 : rCount ⟨tb l ++ t, 0⟩ most = ((l.length : Int), (⟨l ++ t, 0⟩ : RS)) := by
    unfold rCount; rw [h1, if_neg (by simpa using hm), if_neg (by simp)]
  unfold rText
  rw [h2, rRaw_all _ _ rfl (by simp)]
  simp





theorem refBytes_ok (n : Nat) (w : World) (hn : n ≤ 4611686018427387903) :
    Calls Tryd.prog 32 #[.int .i64 n] w fun e w' => e = .returned (.string ⟨(nb n).toArray⟩) ∧ Below w.heap.size w w' := by
  have Hn := Lib.hid (refNum_ok n w hn)
  go_enter Tryd.func32, Tryd.ntmps32
  go_wp2_with fail
  refine Hn.out.mono ?_
  rintro e w1 ⟨rfl, hb⟩
  go_wp2
  go_ret
  exact ⟨rfl, hb⟩

theorem refText_ok (s : List UInt8) (w : World) (hs : s.length ≤ 1048576) :
    Calls Tryd.prog 33 #[.string ⟨s.toArray⟩] w fun e w' => e = .returned (.tuple #[.string ⟨(tb s).toArray⟩, .int .i64 0]) ∧ Below w.heap.size w w' := by
  have Hn := Lib.hid (refBytes_ok s.length w (by omega))
  have hnl := (nb_length s.length).2
  go_enter Tryd.func33, Tryd.ntmps33
  go_wp2_with fail
  refine Hn.out.mono ?_
  rintro e w1 ⟨rfl, hb⟩
  go_wp2
  go_ret2
  refine ⟨?_, hb⟩
  unfold tb
  rw [← ByteArray.mk_append_mk]
  rfl

theorem refText_no (s : List UInt8) (w : World) (hs : 1048576 < s.length) :
    Calls Tryd.prog 33 #[.string ⟨s.toArray⟩] w fun e w' => e = .returned (.tuple #[.string ⟨#[]⟩, .int .i64 4]) ∧ w' = w := by
  go_enter Tryd.func33, Tryd.ntmps33
  go_wp2
  go_ret2
  exact ⟨rfl, rfl⟩

theorem empty_app (t : List UInt8) : (⟨#[]⟩ : ByteArray) ++ ⟨t.toArray⟩ = ⟨t.toArray⟩ := by
  have := ByteArray.mk_append_mk [] t
  simpa using this
theorem str_self (l : List UInt8) : (l == l) = true := by simp

end Go.Proofs.YtfgimhgkjodcgaaDoor
