/- The walk of TreeBytes. -/
import Derived.Test.YtkfkfpfnpfpkaaaDoorArgTree
import Derived.Test.YtkfkfpfnpfpkaaaDoorBldShelf
import Derived.Test.YtkfkfpfnpfpkaaaDoorFrame
import Derived.Test.YtkfkfpfnpfpkaaaDoorGen
import Derived.Test.YtkfkfpfnpfpkaaaDoorOwnL
import Derived.Test.YtkfkfpfnpfpkaaaDoorProg
import Derived.Test.YtkfkfpfnpfpkaaaDoorReadW
import Derived.Test.YtkfkfpfnpfpkaaaDoorRefMbW
import Derived.Test.YtkfkfpfnpfpkaaaDoorRefRightTW
import Derived.Test.YtkfkfpfnpfpkaaaDoorRowN
import Derived.Test.YtkfkfpfnpfpkaaaDoorRows
import Derived.Test.YtkfkfpfnpfpkaaaDoorShelf
import Derived.Test.YtkfkfpfnpfpkaaaDoorTBytesW
import Derived.Test.YtkfkfpfnpfpkaaaDoorTreeLaws3W
import Derived.Test.YtkfkfpfnpfpkaaaDoorTreeLawsW
import Derived.Test.YtkfkfpfnpfpkaaaDoorTreeMath
import Derived.Test.YtkfkfpfnpfpkaaaDoorTreeW
import Derived.BigQuiet
import Derived.BigRegion
import Derived.Deep.Cut
import Derived.Deep.CutRange
import Derived.Deep.DeepCutAuto
import Derived.Deep.QuietTactic
import Derived.Deep.RegionHeld
import Derived.Laws.Externs
import Derived.Laws.IdiomStrings
import Derived.Laws.OwnMore
import Derived.Laws.RangeAny
import Derived.Lib.AppendStr
import Derived.Lib.Builder
import Derived.Lib.Hide
import Derived.Lib.Strings
import Derived.Lib.Walk
import Derived.LoopIn
import Derived.LoopNIn
import Derived.LoopTactic
import Derived.Outline
import Derived.OwnWalkIn
import Derived.RangeFuncBound
import Derived.RangeFuncCalls
import Derived.RangeFuncLeaves
import Derived.RangeFuncNested
import Derived.Shelf.Abstract
import Derived.Shelf.RegionOpen
import Derived.Shelf.Strings.SplitCore
import Derived.StillTail
import Derived.TacticsInMore
import Derived.WalkKit
import Derived.WalkLawsBesides
import Derived.WalkSpells
set_option linter.unusedVariables false
namespace Go.Proofs.YtkfkfpfnpfpkaaaDoor
open Go.RowKit

set_option maxRecDepth 100000 in
set_option maxHeartbeats 1000000 in
theorem treeBytes_walk (v : Value) (w : World) (h : IsIn w v) :
    Calls Tryd.prog 8 #[v] w fun e w' => e = .returned (.bool true) ∧ Below w.heap.size w w' := by
  obtain ⟨xs, hrow, hok, hlen⟩ := h
  have hrow := hrow.mono (M := fun _ => True) (fun _ _ => trivial)
  obtain ⟨va, vc, hv, hcap⟩ := hrow.slice
  subst hv
  have SM := Lib.hid (some9_any va vc xs w hrow)
  have hr := hrow.firsts 100
  have hy := fun x (hx : x ∈ xs.take 100) => hok x (List.mem_of_mem_take hx)
  have hl : (xs.take 100).length ≤ 100 := List.length_take_le _ _
  clear hrow hok hcap hlen
  generalize xs.take 100 = ys at *
  have B1 := fun w' (hb : Below w.heap.size w w') => Lib.hid (tBytes_any _ ys w' (hr.keep hb) hy (by omega))
  have B2 := fun w' (hb : Below w.heap.size w w') => Lib.hid (refMBytes_any _ ys w' (hr.keep hb) hy (by omega))
  have R1 := fun w' (hb : Below w.heap.size w w') => Lib.hid (tRight_any _ ys w' (hr.keep hb) hy (by omega))
  have R2 := fun w' (hb : Below w.heap.size w w') => Lib.hid (refRight9_any _ ys w' (hr.keep hb) hy (by omega))
  generalize mbytesS ys = mb at *
  obtain ⟨mt, me⟩ := mb
  generalize rightS ys = re at *
  have q1 : (mt == mt) = true := by simp
  have q2 : (me == me) = true := by simp
  have q3 : (re == re) = true := by simp
  have HB1 := Lib.hid B1
  have HB2' := Lib.hid B2
  have HR1 := Lib.hid R1
  have HR2 := Lib.hid R2
  clear B1 B2 R1 R2 hr hy
  go_enter Tryd.func8, Tryd.ntmps8
  go_wp2_with fail
  refine SM.out.mono ?_
  rintro e w0 ⟨rfl, rfl⟩
  clear SM
  go_wp2_with fail
  refine (HB1.out _ (Below.refl _ _)).out.mono ?_
  rintro e w1 ⟨rfl, hb1⟩
  have K1 := Lib.hid hb1
  clear hb1
  go_wp2_with fail
  refine (HB2'.out _ K1.out).out.mono ?_
  rintro e w2 ⟨rfl, hb2⟩
  have K2 := Lib.hid (K1.out.trans (hb2.mono K1.out.size))
  clear hb2 K1
  go_wp2_with fail
  refine (HR1.out _ K2.out).out.mono ?_
  rintro e w3 ⟨rfl, hb3⟩
  have K3 := Lib.hid (K2.out.trans (hb3.mono K2.out.size))
  clear hb3 K2
  go_wp2_with fail
  refine (HR2.out _ K3.out).out.mono ?_
  rintro e w4 ⟨rfl, hb4⟩
  have K4 := Lib.hid (K3.out.trans (hb4.mono K3.out.size))
  clear hb4 K3
  go_wp2_with fail
  refine (awake9_any _).mono ?_
  rintro e w5 ⟨rfl, hb5⟩
  go_wp2_with fail
  go_ret
  exact ⟨rfl, K4.out.trans (hb5.mono K4.out.size)⟩
end Go.Proofs.YtkfkfpfnpfpkaaaDoor
