/- The walks of the laws PressPresses and PressLooses; the laws' cut and awake. -/
import Derived.Test.YtjlhhnkfedfdnaaAddNumsW
import Derived.Test.YtjlhhnkfedfdnaaFrame
import Derived.Test.YtjlhhnkfedfdnaaGen
import Derived.Test.YtjlhhnkfedfdnaaMarkMath
import Derived.Test.YtjlhhnkfedfdnaaOwnL
import Derived.Test.YtjlhhnkfedfdnaaPressMath
import Derived.Test.YtjlhhnkfedfdnaaPressW
import Derived.Test.YtjlhhnkfedfdnaaReadW
import Derived.Test.YtjlhhnkfedfdnaaRefPrW
import Derived.Test.YtjlhhnkfedfdnaaRows
import Derived.Test.YtjlhhnkfedfdnaaShelf
import Derived.BigQuiet
import Derived.Deep.Cut
import Derived.Deep.CutBlock
import Derived.Deep.DeepCutAuto
import Derived.Deep.QuietTactic
import Derived.Lib.Hide
import Derived.StillTail
import Derived.StillTailTactics
import Derived.WalkKit
import Derived.WalkLawsBesides
import Derived.WalkSpells
set_option linter.unusedVariables false
namespace Go.Proofs.Ytjlhhnkfedfdnaa
open Go.RowKit

set_option maxRecDepth 100000 in
set_option maxHeartbeats 1000000 in
theorem cut8_any (s : List UInt8) (n : Nat) (w : World) (hn : n ≤ 1000000) (hl : s.length ≤ 140737488351232) :
    Calls Try.prog 12 #[.string ⟨s.toArray⟩, .int .i64 n] w fun e w' => e = .returned (.string ⟨(s.take n).toArray⟩) ∧ w = w' := by
  have L := Lib.hid (show (⟨s.toArray⟩ : ByteArray).size = s.length from rfl)
  by_cases h : n < s.length
  · have E := take_toArray s n
    go_enter Try.func12, Try.ntmps12
    go_wp2
    go_ret
    exact ⟨rfl, rfl⟩
  · have E := Lib.hid (show s.take n = s from List.take_of_length_le (by omega))
    go_enter Try.func12, Try.ntmps12
    go_wp2
    go_ret
    rw [E.out]
    exact ⟨rfl, rfl⟩
set_option maxRecDepth 100000 in
theorem awake8_any (w : World) : Calls Try.prog 15 #[] w fun e w' => e = .returned (.bool true) ∧ Below w.heap.size w w' := by
  have PA := Lib.hid (press_any nine w (by decide))
  rw [press_nine] at PA
  have HN := Lib.hid (show (⟨nine.toArray⟩ : ByteArray) = ⟨#[97, 97, 97, 97, 97, 97, 97, 97, 97]⟩ from rfl)
  rw [HN.out] at PA
  go_enter Try.func15, Try.ntmps15
  go_wp2_with fail
  refine PA.out.mono ?_
  rintro e w1 ⟨rfl, hb⟩
  go_wp2_with fail
  go_ret
  exact ⟨rfl, hb⟩
set_option maxRecDepth 100000 in
set_option maxHeartbeats 1000000 in
theorem pressPresses_walk (s0 : Txt) (hs0 : s0.length ≤ 140737488351232) (w : World) :
    Calls Try.prog 3 #[.string ⟨s0.toArray⟩] w fun e w' => e = .returned (.bool true) ∧ Below w.heap.size w w' := by
  have CT := fun w' => Lib.hid (cut8_any s0 1200 w' (by decide) hs0)
  have hl : (s0.take 1200).length ≤ 1200 := List.length_take_le _ _
  generalize s0.take 1200 = s at *
  have PA := fun w' => Lib.hid (press_any s w' (by omega))
  have RA := fun w' => Lib.hid (refPress_any s w' (by omega))
  generalize pressS s = p at *
  have hpp : (p == p) = true := by simp
  go_enter Try.func3, Try.ntmps3
  go_wp2_with fail
  refine (CT _).out.mono ?_
  rintro e w' ⟨rfl, rfl⟩
  go_wp2_with fail
  refine (PA _).out.mono ?_
  rintro e w1 ⟨rfl, hb1⟩
  have HB1 := Lib.hid hb1
  clear hb1
  go_wp2_with fail
  refine (RA _).out.mono ?_
  rintro e w2 ⟨rfl, hb2⟩
  have HB2 := Lib.hid (HB1.out.trans (hb2.mono HB1.out.size))
  clear hb2
  go_wp2_with fail
  refine (awake8_any _).mono ?_
  rintro e w3 ⟨rfl, hb3⟩
  have HB3 := Lib.hid (HB2.out.trans (hb3.mono HB2.out.size))
  go_wp2_with fail
  go_ret
  exact ⟨rfl, HB3.out⟩
end Go.Proofs.Ytjlhhnkfedfdnaa
