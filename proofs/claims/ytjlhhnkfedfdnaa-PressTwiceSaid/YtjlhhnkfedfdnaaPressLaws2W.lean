/- The walks of the laws PressLooses, PressBounds, PressTwice. -/
import Derived.Test.YtjlhhnkfedfdnaaAddNumsW
import Derived.Test.YtjlhhnkfedfdnaaFrame
import Derived.Test.YtjlhhnkfedfdnaaGen
import Derived.Test.YtjlhhnkfedfdnaaLooseMath
import Derived.Test.YtjlhhnkfedfdnaaLooseW
import Derived.Test.YtjlhhnkfedfdnaaMarkMath
import Derived.Test.YtjlhhnkfedfdnaaOwnL
import Derived.Test.YtjlhhnkfedfdnaaPressLawsW
import Derived.Test.YtjlhhnkfedfdnaaPressMath
import Derived.Test.YtjlhhnkfedfdnaaPressW
import Derived.Test.YtjlhhnkfedfdnaaReadW
import Derived.Test.YtjlhhnkfedfdnaaRefPrW
import Derived.Test.YtjlhhnkfedfdnaaRows
import Derived.Test.YtjlhhnkfedfdnaaShelf
import Derived.Test.YtjlhhnkfedfdnaaTwiceMath
import Derived.BigQuiet
import Derived.Deep.Cut
import Derived.Deep.CutBlock
import Derived.Deep.DeepCutAuto
import Derived.Deep.QuietTactic
import Derived.Lib.Hide
import Derived.StillTail
import Derived.StillTailTactics
import Derived.WalkKit
import Derived.WalkLawsBesides
import Derived.WalkSpells
set_option linter.unusedVariables false
namespace Go.Proofs.Ytjlhhnkfedfdnaa
open Go.RowKit

set_option maxRecDepth 100000 in
set_option maxHeartbeats 1000000 in
theorem pressBounds_walk (s0 : Txt) (hs0 : s0.length ≤ 140737488351232) (w : World) :
    Calls Try.prog 7 #[.string ⟨s0.toArray⟩] w fun e w' => e = .returned (.bool true) ∧ Below w.heap.size w w' := by
  have CT := fun w' => Lib.hid (cut8_any s0 20000 w' (by decide) hs0)
  have hl : (s0.take 20000).length ≤ 20000 := List.length_take_le _ _
  generalize s0.take 20000 = s at *
  have PA := fun w' => Lib.hid (press_any s w' (by omega))
  have WA := fun w' => Lib.hid (wrap_any s w' (by omega))
  have hp := press_len s (by omega)
  have hw := wrap_len s
  generalize pressS s = p at *
  generalize wrapS s = u at *
  have SL := Lib.hid (show (⟨p.toArray⟩ : ByteArray).size = p.length from rfl)
  obtain ⟨q, hq⟩ : ∃ q, q = s.length / 64 := ⟨_, rfl⟩
  have T1 : Int.tdiv (s.length : Int) 64 = (q : Int) := by rw [hq]; rfl
  have T2 : (s.length : Int) / 64 = (q : Int) := by omega
  have i1 : (p.length : Int) ≤ (s.length : Int) + (q : Int) + 6 := by omega
  have i2 : (u.length : Int) ≤ (s.length : Int) + 1 := by omega
  have qb : q ≤ 20000 := by omega
  clear hq
  go_enter Try.func7, Try.ntmps7
  go_wp2_with fail
  refine (CT _).out.mono ?_
  rintro e w' ⟨rfl, rfl⟩
  go_wp2_with fail
  refine (PA _).out.mono ?_
  rintro e w1 ⟨rfl, hb1⟩
  have HB1 := Lib.hid hb1
  clear hb1
  go_wp2_with fail
  refine (WA _).out.mono ?_
  rintro e w2 ⟨rfl, hb2⟩
  have HB2 := Lib.hid (HB1.out.trans (hb2.mono HB1.out.size))
  clear hb2
  go_wp2_with fail
  refine (awake8_any _).mono ?_
  rintro e w3 ⟨rfl, hb3⟩
  have HB3 := Lib.hid (HB2.out.trans (hb3.mono HB2.out.size))
  go_wp2_with fail
  go_ret
  exact ⟨rfl, HB3.out⟩
set_option maxRecDepth 100000 in
set_option maxHeartbeats 1000000 in
theorem pressTwice_walk (s0 : Txt) (hs0 : s0.length ≤ 140737488351232) (w : World) :
    Calls Try.prog 10 #[.string ⟨s0.toArray⟩] w fun e w' => e = .returned (.bool true) ∧ Below w.heap.size w w' := by
  have CT := fun w' => Lib.hid (cut8_any s0 4000 w' (by decide) hs0)
  have hl : (s0.take 4000).length ≤ 4000 := List.length_take_le _ _
  generalize s0.take 4000 = s at *
  have SL := Lib.hid (show (⟨s.toArray⟩ : ByteArray).size = s.length from rfl)
  go_enter Try.func10, Try.ntmps10
  go_wp2_with fail
  refine (CT _).out.mono ?_
  rintro e w' ⟨rfl, rfl⟩
  by_cases h4 : s.length < 4
  · have i1 : (s.length : Int) < 4 := by omega
    go_wp2_with fail
    refine (awake8_any _).mono ?_
    rintro e w3 ⟨rfl, hb3⟩
    go_wp2_with fail
    go_ret
    exact ⟨rfl, hb3⟩
  · have i1 : ¬ (s.length : Int) < 4 := by omega
    have hll : (s ++ s).length = s.length + s.length := List.length_append
    have k1 : ¬ 9223372036854775807 < s.length + s.length := by omega
    have PA := fun w' => Lib.hid (press_any (s ++ s) w' (by omega))
    have htw := twice_len s hl (by omega)
    have hpl := press_len (s ++ s) (by omega)
    have LA := fun w' => Lib.hid (loose_any (pressS (s ++ s)) w' (by omega))
    rw [loose_press (s ++ s) (by omega)] at LA
    have JS := Lib.hid (joinS s s)
    rw [← JS.out] at PA LA
    generalize pressS (s ++ s) = p at *
    obtain ⟨q, hq⟩ : ∃ q, q = s.length / 64 := ⟨_, rfl⟩
    obtain ⟨r, hr⟩ : ∃ r, r = s.length / 259 := ⟨_, rfl⟩
    have T1 : Int.tdiv (s.length : Int) 64 = (q : Int) := by rw [hq]; rfl
    have T2 : (s.length : Int) / 64 = (q : Int) := by omega
    have T3 : Int.tdiv (s.length : Int) 259 = (r : Int) := by rw [hr]; rfl
    have T4 : (s.length : Int) / 259 = (r : Int) := by omega
    have i2 : (p.length : Int) ≤ (s.length : Int) + (q : Int) + 6 + 4 * ((r : Int) + 1) + 8 := by omega
    have qb : q ≤ 20000 := by omega
    have rb : r ≤ 20000 := by omega
    clear hq hr htw hpl hll
    go_wp2_with fail
    refine (PA _).out.mono ?_
    rintro e w1 ⟨rfl, hb1⟩
    have HB1 := Lib.hid hb1
    clear hb1
    go_wp2_with fail
    refine (LA _).out.mono ?_
    rintro e w2 ⟨rfl, hb2⟩
    have HB2 := Lib.hid (HB1.out.trans (hb2.mono HB1.out.size))
    clear hb2
    go_wp2_with fail
    refine (awake8_any _).mono ?_
    rintro e w3 ⟨rfl, hb3⟩
    have HB3 := Lib.hid (HB2.out.trans (hb3.mono HB2.out.size))
    go_wp2_with fail
    go_ret
    exact ⟨rfl, HB3.out⟩
end Go.Proofs.Ytjlhhnkfedfdnaa
