/- The walk of the law PressLong. -/
import Derived.Test.YtjlhhnkfedfdnaaAddNumsW
import Derived.Test.YtjlhhnkfedfdnaaFrame
import Derived.Test.YtjlhhnkfedfdnaaGen
import Derived.Test.YtjlhhnkfedfdnaaInfos
import Derived.Test.YtjlhhnkfedfdnaaMake
import Derived.Test.YtjlhhnkfedfdnaaMarkMath
import Derived.Test.YtjlhhnkfedfdnaaOwnL
import Derived.Test.YtjlhhnkfedfdnaaPressLawsW
import Derived.Test.YtjlhhnkfedfdnaaReadW
import Derived.Test.YtjlhhnkfedfdnaaRows
import Derived.Test.YtjlhhnkfedfdnaaShelf
import Derived.BigQuiet
import Derived.Deep.Cut
import Derived.Deep.CutBlock
import Derived.Deep.DeepCutAuto
import Derived.Deep.QuietTactic
import Derived.IntWalk
import Derived.Lib.Hide
import Derived.Outline
import Derived.StillTail
import Derived.StillTailTactics
import Derived.WalkKit
import Derived.WalkLawsBesides
import Derived.WalkSpells
set_option linter.unusedVariables false
namespace Go.Proofs.Ytjlhhnkfedfdnaa
open Go.RowKit

set_option maxRecDepth 100000 in
theorem press_long (s : Txt) (w : World) (hs : 1048576 < s.length) :
    Calls Try.prog 13 #[.string ⟨s.toArray⟩] w fun e w' => e = .returned (.tuple #[.string ⟨#[]⟩, .int .i64 4]) ∧ w = w' := by
  have SL := Lib.hid (show (⟨s.toArray⟩ : ByteArray).size = s.length from rfl)
  have n0 : (1048576 : Int) < (s.length : Int) := by omega
  clear hs
  go_enter Try.func13, Try.ntmps13
  go_wp2_with fail
  go_ret2
  exact ⟨rfl, rfl⟩
set_option maxRecDepth 100000 in
theorem wrap_long (s : Txt) (w : World) (hs : 1048576 < s.length) :
    Calls Try.prog 18 #[.string ⟨s.toArray⟩] w fun e w' => e = .returned (.tuple #[.string ⟨#[]⟩, .int .i64 4]) ∧ w = w' := by
  have PL := Lib.hid (press_long s w hs)
  clear hs
  go_enter Try.func18, Try.ntmps18
  go_wp2_with fail
  refine PL.out.mono ?_
  rintro e w1 ⟨rfl, rfl⟩
  go_wp2_with fail
  go_ret2
  exact ⟨rfl, rfl⟩
set_option maxRecDepth 100000 in
set_option maxHeartbeats 1000000 in
theorem pressLong_walk (more : Int) (h0 : -9223372036854775808 ≤ more) (h1 : more ≤ 9223372036854775807) (w : World) :
    Calls Try.prog 11 #[.int .i64 more] w fun e w' => e = .returned (.bool true) ∧ Below w.heap.size w w' := by
  by_cases hm : more < 1 ∨ 9 < more
  · have hc : more < 1 ∨ (¬ more < 1 ∧ 9 < more) := by omega
    clear hm
    rcases hc with c1 | ⟨c1, c2⟩
    all_goals
      go_enter Try.func11, Try.ntmps11
      go_wp2_with fail
      refine (awake8_any _).mono ?_
      rintro e w3 ⟨rfl, hb3⟩
      go_wp2_with fail
      go_ret
      exact ⟨rfl, hb3⟩
  · have c1 : ¬ more < 1 := fun h => hm (.inl h)
    have c2 : ¬ 9 < more := fun h => hm (.inr h)
    obtain ⟨n, hn⟩ : ∃ n : Nat, 1048576 + more = (n : Int) := ⟨(1048576 + more).toNat, by omega⟩
    have hnb : n ≤ 2000000 := by omega
    have hnl : 1048576 < n := by omega
    clear hm
    have MK := fun w' => Lib.hid (make_zeros (P := Try.prog) w' 28 5 Try.underlying28 info_u8 w'.heap.size n (n : Int) rfl (by omega) (Nat.le_refl _))
    have hzl : (List.replicate n (0 : UInt8)).length = n := List.length_replicate
    generalize List.replicate n (0 : UInt8) = Z at *
    have PL := fun w' => Lib.hid (press_long Z w' (by omega))
    have WL := fun w' => Lib.hid (wrap_long Z w' (by omega))
    have HN := Lib.hid hn
    clear hzl
    obtain ⟨v1, w1, hr1, ho1, hb1⟩ := (MK w).out
    have os1 := own_string w1 w.heap.size 28 9 5 v1 Z Try.underlying28 Try.underlying5 Try.underlying9 ho1
    have HB1 := Lib.hid hb1
    clear ho1 hb1
    go_enter Try.func11, Try.ntmps11
    go_wp2_with fail
    refine (PL _).out.mono ?_
    rintro e w2 ⟨rfl, rfl⟩
    clear hr1 os1
    obtain ⟨v2, w2, hr2, ho2, hb2⟩ := (MK w1).out
    have os2 := own_string w2 w1.heap.size 28 9 5 v2 Z Try.underlying28 Try.underlying5 Try.underlying9 ho2
    have HB2 := Lib.hid (HB1.out.trans (hb2.mono HB1.out.size))
    clear ho2 hb2
    go_wp2_with fail
    refine (WL _).out.mono ?_
    rintro e w3 ⟨rfl, rfl⟩
    go_wp2_with fail
    refine (awake8_any _).mono ?_
    rintro e w4 ⟨rfl, hb4⟩
    have HB4 := Lib.hid (HB2.out.trans (hb4.mono HB2.out.size))
    go_wp2_with fail
    go_ret
    exact ⟨rfl, HB4.out⟩
end Go.Proofs.Ytjlhhnkfedfdnaa
