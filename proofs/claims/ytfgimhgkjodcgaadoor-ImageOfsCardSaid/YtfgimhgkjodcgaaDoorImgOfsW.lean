/- The walk of ImageOfs. -/
import Derived.Test.YtfgimhgkjodcgaaDoorArgTree
import Derived.Test.YtfgimhgkjodcgaaDoorFrame
import Derived.Test.YtfgimhgkjodcgaaDoorGen
import Derived.Test.YtfgimhgkjodcgaaDoorBdX
import Derived.Test.YtfgimhgkjodcgaaDoorMeX
import Derived.Test.YtfgimhgkjodcgaaDoorImgFewW
import Derived.Test.YtfgimhgkjodcgaaDoorImgMath
import Derived.Test.YtfgimhgkjodcgaaDoorOwnL
import Derived.Test.YtfgimhgkjodcgaaDoorProg
import Derived.Test.YtfgimhgkjodcgaaDoorReadW
import Derived.Test.YtfgimhgkjodcgaaDoorRefImgW
import Derived.Test.YtfgimhgkjodcgaaDoorRowN
import Derived.Test.YtfgimhgkjodcgaaDoorRows
import Derived.Test.YtfgimhgkjodcgaaDoorShelf
import Derived.Test.YtfgimhgkjodcgaaDoorTreeMath
import Derived.BigQuiet
import Derived.BigRegion
import Derived.Deep.Cut
import Derived.Deep.CutBlock
import Derived.Deep.CutRange
import Derived.Deep.DeepCutAuto
import Derived.Deep.QuietTactic
import Derived.Deep.RegionHeld
import Derived.Laws.Externs
import Derived.Laws.RangeAny
import Derived.Lib.AppendStr
import Derived.Lib.Builder
import Derived.Lib.Hide
import Derived.Lib.Strings
import Derived.Lib.Walk
import Derived.LoopIn
import Derived.LoopNIn
import Derived.LoopTactic
import Derived.Outline
import Derived.OwnWalkIn
import Derived.RangeFuncBound
import Derived.RangeFuncCalls
import Derived.RangeFuncLeaves
import Derived.RangeFuncNested
import Derived.Shelf.Abstract
import Derived.Shelf.RegionOpen
import Derived.TacticsInMore
import Derived.WalkKit
import Derived.WalkLawsBesides
import Derived.WalkSpells
set_option linter.unusedVariables false
namespace Go.Proofs.YtfgimhgkjodcgaaDoor
open Go.RowKit

set_option maxRecDepth 100000 in
set_option maxHeartbeats 1000000 in
theorem imageOfs_walk (v : Value) (w : World) (h : FsIn w v) :
    Calls Tryd.prog 3 #[v] w fun e w' => e = .returned (.bool true) ∧ Below w.heap.size w w' := by
  obtain ⟨xs, hrow, hok, hlen⟩ := h
  have hrow := hrow.mono (M := fun _ => True) (fun _ _ => trivial)
  obtain ⟨hy, hl⟩ := fewI_ok hok
  have FW := Lib.hid (few10_any v xs w hrow hok (by omega))
  have HY := Lib.hid hy
  obtain ⟨va, vc, hv, _⟩ := hrow.slice
  subst hv
  clear hrow hok hlen hy
  generalize fewI xs = ys at *
  have B1 := Lib.hid (fun v' w' (hr : RowN encF 3 (fun _ => True) w' v' ys) => iOf_any v' ys w' hr HY.out (by omega))
  have B2 := Lib.hid (fun v' w' (hr : RowN encF 3 (fun _ => True) w' v' ys) => refImgOf_any v' ys w' hr HY.out (by omega))
  have B3 := Lib.hid (fun v' w' (hr : RowN encF 3 (fun _ => True) w' v' ys) => iSize_any v' ys w' hr HY.out (by omega))
  generalize imgS ys = im at *
  obtain ⟨mt, me⟩ := im
  dsimp only at B1 B2 B3
  have SL := Lib.hid (show (⟨mt.toArray⟩ : ByteArray).size = mt.length from rfl)
  have q1 : (mt == mt) = true := by simp
  have q2 : (me == me) = true := by simp
  have q3 : ((mt.length : Int) == (mt.length : Int)) = true := by simp
  go_enter Tryd.func3, Tryd.ntmps3
  go_wp2_with fail
  refine FW.out.mono ?_
  rintro e w1 ⟨v1, rfl, hown1, hb1⟩
  obtain ⟨oa, om, oc, rfl⟩ := own_slice hown1
  have R1 := Lib.hid ((OwnN.row encF_ok hown1).mono (M := fun _ => True) (fun _ _ => trivial))
  have K1 := Lib.hid hb1
  clear hown1 hb1 FW
  go_wp2_with fail
  refine (B1.out _ _ R1.out).mono ?_
  rintro e w2 ⟨rfl, hb2⟩
  have R2 := Lib.hid (R1.out.keep hb2)
  have K2 := Lib.hid (K1.out.trans (hb2.mono K1.out.size))
  clear hb2 K1 R1 B1
  go_wp2_with fail
  refine (B2.out _ _ R2.out).mono ?_
  rintro e w3 ⟨rfl, hb3⟩
  have R3 := Lib.hid (R2.out.keep hb3)
  have K3 := Lib.hid (K2.out.trans (hb3.mono K2.out.size))
  clear hb3 K2 R2 B2
  go_wp2_with fail
  refine (B3.out _ _ R3.out).mono ?_
  rintro e w4 ⟨rfl, hb4⟩
  have K4 := Lib.hid (K3.out.trans (hb4.mono K3.out.size))
  clear hb4 K3 R3 B3
  go_wp2_with fail
  refine (awake10_any _).mono ?_
  rintro e w5 ⟨rfl, hb5⟩
  go_wp2_with fail
  go_ret
  exact ⟨rfl, K4.out.trans (hb5.mono K4.out.size)⟩
end Go.Proofs.YtfgimhgkjodcgaaDoor
