/- The walks of the laws PressBack and PressLooses. -/
import Derived.Test.YtjlhhnkfedfdnaaAddNumsW
import Derived.Test.YtjlhhnkfedfdnaaFrame
import Derived.Test.YtjlhhnkfedfdnaaGen
import Derived.Test.YtjlhhnkfedfdnaaLooseMath
import Derived.Test.YtjlhhnkfedfdnaaLooseW
import Derived.Test.YtjlhhnkfedfdnaaMarkMath
import Derived.Test.YtjlhhnkfedfdnaaOwnL
import Derived.Test.YtjlhhnkfedfdnaaPressLawsW
import Derived.Test.YtjlhhnkfedfdnaaPressMath
import Derived.Test.YtjlhhnkfedfdnaaPressW
import Derived.Test.YtjlhhnkfedfdnaaReadW
import Derived.Test.YtjlhhnkfedfdnaaRefLoW
import Derived.Test.YtjlhhnkfedfdnaaRefReadW
import Derived.Test.YtjlhhnkfedfdnaaRows
import Derived.Test.YtjlhhnkfedfdnaaShelf
import Derived.BigQuiet
import Derived.Deep.Cut
import Derived.Deep.DeepCutAuto
import Derived.Deep.QuietTactic
import Derived.IntWalk
import Derived.Lib.Hide
import Derived.Outline
import Derived.StillTail
import Derived.StillTailTactics
import Derived.WalkKit
import Derived.WalkLawsBesides
import Derived.WalkSpells
set_option linter.unusedVariables false
namespace Go.Proofs.Ytjlhhnkfedfdnaa
open Go.RowKit

set_option maxRecDepth 100000 in
set_option maxHeartbeats 1000000 in
theorem pressBack_walk (s0 : Txt) (hs0 : s0.length ≤ 140737488351232) (w : World) :
    Calls Try.prog 6 #[.string ⟨s0.toArray⟩] w fun e w' => e = .returned (.bool true) ∧ Below w.heap.size w w' := by
  have CT := fun w' => Lib.hid (cut8_any s0 20000 w' (by decide) hs0)
  have hl : (s0.take 20000).length ≤ 20000 := List.length_take_le _ _
  generalize s0.take 20000 = s at *
  have PA := fun w' => Lib.hid (press_any s w' (by omega))
  have WA := fun w' => Lib.hid (wrap_any s w' (by omega))
  have hp := press_len s (by omega)
  have hw := wrap_len s
  have LA := fun w' => Lib.hid (loose_any (pressS s) w' (by omega))
  have OA := fun w' => Lib.hid (open_any (wrapS s) w' (by omega))
  rw [loose_press s (by omega)] at LA
  rw [open_wrap s (by omega)] at OA
  generalize pressS s = p at *
  generalize wrapS s = u at *
  have hss : (s == s) = true := by simp
  clear hp hw
  go_enter Try.func6, Try.ntmps6
  go_wp2_with fail
  refine (CT _).out.mono ?_
  rintro e w' ⟨rfl, rfl⟩
  go_wp2_with fail
  refine (PA _).out.mono ?_
  rintro e w1 ⟨rfl, hb1⟩
  have HB1 := Lib.hid hb1
  clear hb1
  go_wp2_with fail
  refine (LA _).out.mono ?_
  rintro e w2 ⟨rfl, hb2⟩
  have HB2 := Lib.hid (HB1.out.trans (hb2.mono HB1.out.size))
  clear hb2
  go_wp2_with fail
  refine (WA _).out.mono ?_
  rintro e w3 ⟨rfl, hb3⟩
  have HB3 := Lib.hid (HB2.out.trans (hb3.mono HB2.out.size))
  clear hb3
  go_wp2_with fail
  refine (OA _).out.mono ?_
  rintro e w4 ⟨rfl, hb4⟩
  have HB4 := Lib.hid (HB3.out.trans (hb4.mono HB3.out.size))
  clear hb4
  go_wp2_with fail
  refine (awake8_any _).mono ?_
  rintro e w5 ⟨rfl, hb5⟩
  have HB5 := Lib.hid (HB4.out.trans (hb5.mono HB4.out.size))
  go_wp2_with fail
  go_ret
  exact ⟨rfl, HB5.out⟩
set_option maxRecDepth 100000 in
set_option maxHeartbeats 1000000 in
theorem pressLooses_walk (s0 : Txt) (hs0 : s0.length ≤ 140737488351232) (w : World) :
    Calls Try.prog 5 #[.string ⟨s0.toArray⟩] w fun e w' => e = .returned (.bool true) ∧ Below w.heap.size w w' := by
  have CT := fun w' => Lib.hid (cut8_any s0 3000 w' (by decide) hs0)
  have hl : (s0.take 3000).length ≤ 3000 := List.length_take_le _ _
  generalize s0.take 3000 = s at *
  have SL := Lib.hid (show (⟨s.toArray⟩ : ByteArray).size = s.length from rfl)
  have PA := fun w' => Lib.hid (loose_any s w' (by omega))
  have RA := fun w' => Lib.hid (refLoose_any s w' (by omega))
  generalize looseS s = lo at *
  obtain ⟨lt, le⟩ := lo
  have hss : (lt == lt) = true := by simp
  have hee : (le == le) = true := by simp
  go_enter Try.func5, Try.ntmps5
  go_wp2_with fail
  refine (CT _).out.mono ?_
  rintro e w' ⟨rfl, rfl⟩
  go_upto_region 2 with fail
  go_cut [26] (fun v26 wx => ∃ bad : Bool, v26 = .bool bad ∧ wx = w)
  case first =>
    by_cases h2 : 2 < s.length
    · have i2 : (2 : Int) < (s.length : Int) := by omega
      have i1 : (1 : Int) < (s.length : Int) := by omega
      have i0 : (0 : Int) < (s.length : Int) := by omega
      have n0 : 0 < s.length := by omega
      have n1 : 1 < s.length := by omega
      by_cases c0 : (127 : Int) < ((((⟨s.toArray⟩ : ByteArray)[0]'n0).toNat : Nat) : Int)
      · by_cases c1 : (127 : Int) < ((((⟨s.toArray⟩ : ByteArray)[1]'n1).toNat : Nat) : Int)
        · by_cases c2 : (3 : Int) < ((((⟨s.toArray⟩ : ByteArray)[2]'h2).toNat : Nat) : Int)
          all_goals
            go_wp2_with fail
            go_meet
            exact ⟨_, rfl, rfl⟩
        · go_wp2_with fail
          go_meet
          exact ⟨_, rfl, rfl⟩
      · go_wp2_with fail
        go_meet
        exact ⟨_, rfl, rfl⟩
    · have i2 : ¬ (2 : Int) < (s.length : Int) := by omega
      go_wp2_with fail
      go_meet
      exact ⟨_, rfl, rfl⟩
  case rest =>
    obtain ⟨bad, rfl, rfl⟩ := hcut
    cases bad with
    | true =>
      go_wp2_with fail
      refine (awake8_any _).mono ?_
      rintro e w3 ⟨rfl, hb3⟩
      go_wp2_with fail
      go_ret
      exact ⟨rfl, hb3⟩
    | false =>
      go_wp2_with fail
      refine (PA _).out.mono ?_
      rintro e w1 ⟨rfl, hb1⟩
      have HB1 := Lib.hid hb1
      clear hb1
      go_wp2_with fail
      refine (RA _).out.mono ?_
      rintro e w2 ⟨rfl, hb2⟩
      have HB2 := Lib.hid (HB1.out.trans (hb2.mono HB1.out.size))
      clear hb2
      go_wp2_with fail
      refine (awake8_any _).mono ?_
      rintro e w3 ⟨rfl, hb3⟩
      have HB3 := Lib.hid (HB2.out.trans (hb3.mono HB2.out.size))
      go_wp2_with fail
      go_ret
      exact ⟨rfl, HB3.out⟩
end Go.Proofs.Ytjlhhnkfedfdnaa
