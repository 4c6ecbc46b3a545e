/- KeepPolicies: the walk. -/
import Derived.Test.YtgejocceegadhaaFrame
import Derived.Test.YtgejocceegadhaaGen
import Derived.Test.YtgejocceegadhaaKeepAwakeW
import Derived.Test.YtgejocceegadhaaKeepHoldMath
import Derived.Test.YtgejocceegadhaaKeepMath
import Derived.Test.YtgejocceegadhaaLandK1W
import Derived.Test.YtgejocceegadhaaOwnL
import Derived.Test.YtgejocceegadhaaQuietBelow
import Derived.Test.YtgejocceegadhaaRefKeep2W
import Derived.Test.YtgejocceegadhaaRefKeepW
import Derived.Test.YtgejocceegadhaaRowN
import Derived.Test.YtgejocceegadhaaRows
import Derived.Test.YtgejocceegadhaaShelf
import Derived.BigRegion
import Derived.ChangeAlike
import Derived.Deep.QuietTactic
import Derived.Deep.RegionHeld3
import Derived.LoopIn
import Derived.LoopNIn
import Derived.Maps.OwnIn
import Derived.Maps.OwnOps
import Derived.Maps.OwnSet
import Derived.Maps.RangeWalk
import Derived.OwnWalkIn
import Derived.RangeFuncBound
import Derived.RangeFuncCalls
import Derived.RangeFuncLeaves
import Derived.RangeFuncNested
import Derived.RegionTactic
import Derived.Shelf.Abstract
import Derived.Shelf.RegionOpen
import Derived.TacticsInMore
import Derived.WalkKit
set_option linter.unusedVariables false
namespace Go.Proofs.Ytgejocceegadhaa
open Go.RowKit

set_option maxRecDepth 100000 in
theorem keepPolicies_walk (l e : Int) (h : PolIn l e) (g : Int) (g1 : -9223372036854775808 ≤ g) (g2 : g ≤ 9223372036854775807) (top : Int) (t1 : -9223372036854775808 ≤ top) (t2 : top ≤ 9223372036854775807) (w : World) :
    Calls Try.prog 3 #[polV l e, .int .i64 g, .int .i64 top] w fun e w' => e = .returned (.bool true) ∧ Below w.heap.size w w' := by
  have HBA := Lib.hid ((Below.refl _ w).alloc (Nat.le_refl _) (.cells #[.int .i64 l, .int .i64 e] 23))
  have hbx := heap_alloc_new w (.cells #[.int .i64 l, .int .i64 e] 23)
  have K1 := fun X => Lib.hid (keepRight_any l e X h)
  have K2 := fun X => Lib.hid (refRight12_any l e X h)
  have K3 := fun X => Lib.hid (keepKeeps_any l e g top X h ⟨g1, g2⟩ ⟨t1, t2⟩)
  have K4 := fun X => Lib.hid (refKeeps12_any l e g top X h ⟨g1, g2⟩ ⟨t1, t2⟩)
  have K5 := fun X => Lib.hid (awake12_any X)
  unfold polV at *
  generalize rightP l e = rp at *
  generalize keepsP l e g top = kp at *
  clear h
  go_enter Try.func3, Try.ntmps3
  go_wp2_with fail
  generalize w.alloc (.cells #[.int .i64 l, .int .i64 e] 23) = wA at *
  obtain ⟨nb, hnb⟩ : ∃ nb, nb = w.heap.size := ⟨_, rfl⟩
  rw [← hnb] at hbx ⊢
  clear hnb
  have c0 : wA.cell? ⟨nb, 0, none⟩ = some (.int .i64 l) := by rw [cell_of_row _ _ _ _ _ _ hbx]; rfl
  have c1 : wA.cell? ⟨nb, 1, none⟩ = some (.int .i64 e) := by rw [cell_of_row _ _ _ _ _ _ hbx]; rfl
  have C0 := below_cell c0
  have C1 := below_cell c1
  clear hbx c0 c1
  have q1 : (rp == rp) = true := by simp
  have q2 : (kp == kp) = true := by simp
  refine wp_region_below (by kernel_rfl) (by kernel_rfl) ?_
  repeat (go_big_quiet_step (first
    | (go_at_call 10; with_reducible exact below_calls (K1 _).out)
    | (go_at_call 11; with_reducible exact below_calls (K2 _).out)
    | (go_at_call 12; with_reducible exact below_calls (K3 _).out)
    | (go_at_call 13; with_reducible exact below_calls (K4 _).out)
    | (go_at_call 14; with_reducible exact below_calls (K5 _).out)))
  refine wpQuiet_nil ?_
  rintro w9 ⟨⟨w9b, hb9⟩, e9⟩
  have e9' : w9 = w9b := e9
  clear e9
  subst e9'
  have HB9 := Lib.hid (HBA.out.trans (hb9.mono HBA.out.size))
  clear hb9 K1 K2 K3 K4 K5
  go_wp2_with fail
  go_ret
  exact ⟨rfl, HB9.out⟩
end Go.Proofs.Ytgejocceegadhaa
