/- Several texts in one: Text, Signed. -/
import Derived.Test.YtamiacmnobklaaaGreatDoorCdX
import Derived.Test.YtamiacmnobklaaaGreatDoorCodeNumW
import Derived.Test.YtamiacmnobklaaaGreatDoorGen
import Derived.Test.YtamiacmnobklaaaGreatDoorInfos
import Derived.Test.YtamiacmnobklaaaGreatDoorRows
import Derived.BigQuiet
import Derived.WalkKit
import Derived.WalkLawsBesides
import Derived.WalkSpells
import Derived.Deep.Draws
import Derived.Laws.Bits128
import Derived.Laws.IdiomStrings
import Derived.Lib.AppendStr
import Derived.Lib.Hide
/- Texts: made and read. -/
set_option linter.unusedVariables false
namespace Go.Proofs.YtamiacmnobklaaaGreatDoor
open Go.RowKit

/-- A text's bytes. -/
def tb (l : List UInt8) : List UInt8 := nb l.length ++ l

theorem rText_tb (l t : List UInt8) (h : l.length ≤ 4611686018427387903) (most : Int) (hm : (l.length : Int) ≤ most) : rText ⟨tb l ++ t, 0⟩ most = (l, (⟨t, 0⟩ : RS)) := by
  have h1 : rNum ⟨tb l ++ t, 0⟩ = ((l.length : Int), (⟨l ++ t, 0⟩ : RS)) := by
    unfold tb; rw [List.append_assoc]; exact rNum_nb _ _ h
  have h2 : rCount ⟨tb l ++ t, 0⟩ most = ((l.length : Int), (⟨l ++ t, 0⟩ : RS)) := by
    unfold rCount; rw [h1, if_neg (by simpa using hm), if_neg (by simp)]
  unfold rText
  rw [h2, rRaw_all _ _ rfl (by simp)]
  simp

set_option maxHeartbeats 400000 in
theorem addText_ok (base : Nat) (v : Value) (l : List UInt8) (s : List UInt8) (w : World) (hl : l.length < 70368740000000) (hs : s.length ≤ 1048576)
    (hb : base ≤ w.heap.size) (hown : Own w base 5 v l) :
    Calls Tryz.prog 104 #[v, .string ⟨s.toArray⟩] w fun e w' => ∃ v', e = .returned (.tuple #[v', .int .i64 0]) ∧
      Own w' base 5 v' (l ++ tb s) ∧ Below base w w' := by
  have Hn := Lib.hid (addNum_any base s.length v l w (by omega) (by omega) hb hown)
  have hnl := (nb_length s.length).2
  have hsz : (l ++ nb s.length).length + (ByteArray.mk s.toArray).size < 70368744177664 := by
    rw [List.length_append, ByteArray.size_mk', List.size_toArray]; omega
  clear hown
  go_enter Tryz.func104, Tryz.ntmps104
  go_wp2_with fail
  refine Hn.out.mono ?_
  rintro e w1 ⟨v1, rfl, hown1, hb1⟩
  have Hown1 := Lib.hid hown1; clear hown1
  have hbw : base ≤ w1.heap.size := Nat.le_trans hb hb1.size
  go_wp2_with (at_builtin; refine append_text rfl _ _ 105 9 5 (by rfl) Tryz.underlying105 Tryz.underlying9 info_u8 base _ _ ⟨s.toArray⟩ (by rfl) Hown1.out (by rfl) hsz hbw ?_; intro v' w2 hown2 hb2)
  have Hown2 := Lib.hid hown2; clear hown2
  go_wp2
  go_ret2
  refine ⟨_, rfl, ?_, hb1.trans hb2⟩
  have := Hown2.out
  unfold tb
  rw [← List.append_assoc]
  exact this

theorem addText_no (v : Value) (s : List UInt8) (w : World) (hs : 1048576 < s.length) :
    Calls Tryz.prog 104 #[v, .string ⟨s.toArray⟩] w fun e w' => e = .returned (.tuple #[.slice none 0 0, .int .i64 4]) ∧ w' = w := by
  go_enter Tryz.func104, Tryz.ntmps104
  go_wp2
  go_ret2
  exact ⟨rfl, rfl⟩

theorem text_ok (s : List UInt8) (w : World) (hs : s.length ≤ 1048576) :
    Calls Tryz.prog 68 #[.string ⟨s.toArray⟩] w fun e w' => e = .returned (.tuple #[.string ⟨(tb s).toArray⟩, .int .i64 0]) ∧ Below w.heap.size w w' := by
  have Hn := Lib.hid (addText_ok w.heap.size _ [] s w (by simp) hs (Nat.le_refl _) (Own.nil _ _ _))
  go_enter Tryz.func68, Tryz.ntmps68
  go_wp2_with fail
  refine Hn.out.mono ?_
  rintro e w1 ⟨v1, rfl, hown, hb⟩
  go_wp2_with fail
  refine (made_any w.heap.size _ _ _ _ hown).mono ?_
  rintro e w2 ⟨rfl, rfl⟩
  go_wp2
  go_ret2
  exact ⟨rfl, hb⟩

theorem text_no (s : List UInt8) (w : World) (hs : 1048576 < s.length) :
    Calls Tryz.prog 68 #[.string ⟨s.toArray⟩] w fun e w' => e = .returned (.tuple #[.string ⟨#[]⟩, .int .i64 4]) ∧ w' = w := by
  have Hn := Lib.hid (addText_no (.slice none 0 0) s w hs)
  go_enter Tryz.func68, Tryz.ntmps68
  go_wp2_with fail
  refine Hn.out.mono ?_
  rintro e w1 ⟨rfl, rfl⟩
  go_wp2_with fail
  refine (made_any 0 _ [] _ _ (Own.nil _ _ _)).mono ?_
  rintro e w2 ⟨rfl, rfl⟩
  go_wp2
  go_ret2
  exact ⟨rfl, rfl⟩




theorem empty_app (t : List UInt8) : (⟨#[]⟩ : ByteArray) ++ ⟨t.toArray⟩ = ⟨t.toArray⟩ := by
  have := ByteArray.mk_append_mk [] t
  simpa using this
theorem str_self (l : List UInt8) : (l == l) = true := by simp

end Go.Proofs.YtamiacmnobklaaaGreatDoor
/- Numbers with a sign: made and read. -/
set_option linter.unusedVariables false
namespace Go.Proofs.YtamiacmnobklaaaGreatDoor
open Go.RowKit







/-- The number with a sign that a number stands for. -/
def unsg (m : Int) : Int := if m % 2 = 1 then -(m / 2) - 1 else m / 2


theorem int_self (n : Int) : (n == n) = true := by simp

end Go.Proofs.YtamiacmnobklaaaGreatDoor
