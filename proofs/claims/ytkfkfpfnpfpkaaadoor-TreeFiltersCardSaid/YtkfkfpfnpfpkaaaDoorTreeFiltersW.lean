/- The contract of tree.Filter (A TRIAL), and the walk of TreeFilters. -/
import Derived.Test.YtkfkfpfnpfpkaaaDoorArgTree
import Derived.Test.YtkfkfpfnpfpkaaaDoorArgs3
import Derived.Test.YtkfkfpfnpfpkaaaDoorFilterTW
import Derived.Test.YtkfkfpfnpfpkaaaDoorFitX
import Derived.Test.YtkfkfpfnpfpkaaaDoorFrame
import Derived.Test.YtkfkfpfnpfpkaaaDoorGen
import Derived.Test.YtkfkfpfnpfpkaaaDoorMarkMath
import Derived.Test.YtkfkfpfnpfpkaaaDoorOneW
import Derived.Test.YtkfkfpfnpfpkaaaDoorOwnL
import Derived.Test.YtkfkfpfnpfpkaaaDoorProg
import Derived.Test.YtkfkfpfnpfpkaaaDoorReadW
import Derived.Test.YtkfkfpfnpfpkaaaDoorRefFilterW
import Derived.Test.YtkfkfpfnpfpkaaaDoorRefMatchW9
import Derived.Test.YtkfkfpfnpfpkaaaDoorRefSortW
import Derived.Test.YtkfkfpfnpfpkaaaDoorRowN
import Derived.Test.YtkfkfpfnpfpkaaaDoorRows
import Derived.Test.YtkfkfpfnpfpkaaaDoorShelf
import Derived.Test.YtkfkfpfnpfpkaaaDoorSoX
import Derived.Test.YtkfkfpfnpfpkaaaDoorSortMath
import Derived.Test.YtkfkfpfnpfpkaaaDoorLwX
import Derived.Test.YtkfkfpfnpfpkaaaDoorTreeMath
import Derived.BigQuiet
import Derived.BigRegion
import Derived.Deep.Cut
import Derived.Deep.CutRange
import Derived.Deep.DeepCutAuto
import Derived.Deep.QuietTactic
import Derived.Deep.RegionHeld
import Derived.Laws.IdiomStrings
import Derived.Laws.OwnMore
import Derived.Laws.RangeAny
import Derived.Lib.Hide
import Derived.LoopIn
import Derived.LoopNIn
import Derived.LoopTactic
import Derived.OwnWalkIn
import Derived.RangeFuncBound
import Derived.RangeFuncCalls
import Derived.RangeFuncLeaves
import Derived.RangeFuncNested
import Derived.Shelf.Abstract
import Derived.Shelf.RegionOpen
import Derived.Shelf.Strings.SplitCore
import Derived.StillTail
import Derived.TacticsInMore
import Derived.WalkKit
import Derived.WalkLawsBesides
import Derived.WalkSpells
set_option linter.unusedVariables false
namespace Go.Proofs.YtkfkfpfnpfpkaaaDoor
open Go.RowKit

theorem filterS_len (l : List FileD) (a b : List Txt) : (filterS l a b).length ≤ l.length := by
  unfold filterS
  split
  · simp
  · exact List.length_filter_le _ _
theorem Texts.eachAt {W : World} {v : Value} {xs : List Txt} (h : Texts W v xs) : ∃ a c, v = .slice a xs.length c ∧ EachAt W a xs := by
  obtain ⟨a, c, rfl, _, _, _, _, hc⟩ := h
  refine ⟨a, c, rfl, fun i hi => ?_⟩
  obtain ⟨b, o, e, _, hx⟩ := hc i hi
  exact ⟨b, o, e, hx⟩
set_option maxRecDepth 100000 in
set_option maxHeartbeats 1000000 in
theorem treeFilters_walk (v : Value) (u1 : Value) (ins : List Txt) (u2 : Value) (outs : List Txt) (w : World) (h : FsIn w v) (h1 : Texts w u1 ins) (h2 : Texts w u2 outs) :
    Calls Tryd.prog 13 #[v, u1, u2] w fun e w' => e = .returned (.bool true) ∧ Below w.heap.size w w' := by
  obtain ⟨xs, hrow, hok, hlen⟩ := h
  have hrow := hrow.mono (M := fun _ => True) (fun _ _ => trivial)
  obtain ⟨va, vc, hv, hcap⟩ := hrow.slice
  subst hv
  have SM := Lib.hid (few9_any va vc xs w hrow)
  have hr := hrow.firsts 60
  have hy := fun x (hx : x ∈ xs.take 60) => hok x (List.mem_of_mem_take hx)
  have hl : (xs.take 60).length ≤ 60 := List.length_take_le _ _
  clear hrow hok hcap hlen
  generalize xs.take 60 = ys at *
  obtain ⟨a1, c1, rfl, he1⟩ := h1.eachAt
  obtain ⟨a2, c2, rfl, he2⟩ := h2.eachAt
  have hx1 := h1.each
  have hx2 := h2.each
  clear h1 h2
  by_cases hz1 : 8 < ins.length
  · have j1 : (8 : Int) < (ins.length : Int) := by omega
    clear hr hy hl he1 he2 hx1 hx2
    go_enter Tryd.func13, Tryd.ntmps13
    go_wp2_with fail
    refine SM.out.mono ?_
    rintro e w0 ⟨rfl, rfl⟩
    clear SM
    go_wp2_with fail
    refine (awake9_any _).mono ?_
    rintro e w6 ⟨rfl, hb6⟩
    go_wp2_with fail
    go_ret
    exact ⟨rfl, hb6⟩
  by_cases hz2 : 8 < outs.length
  · have j1 : ¬ (8 : Int) < (ins.length : Int) := by omega
    have j2 : (8 : Int) < (outs.length : Int) := by omega
    clear hr hy hl he1 he2 hx1 hx2
    go_enter Tryd.func13, Tryd.ntmps13
    go_wp2_with fail
    refine SM.out.mono ?_
    rintro e w0 ⟨rfl, rfl⟩
    clear SM
    go_wp2_with fail
    refine (awake9_any _).mono ?_
    rintro e w6 ⟨rfl, hb6⟩
    go_wp2_with fail
    go_ret
    exact ⟨rfl, hb6⟩
  have j1 : ¬ (8 : Int) < (ins.length : Int) := by omega
  have j2 : ¬ (8 : Int) < (outs.length : Int) := by omega
  have B1 := fun w' (hb : Below w.heap.size w w') => Lib.hid (tFilter_any _ ys a1 c1 ins a2 c2 outs w' (hr.keep hb) hy (by omega) (he1.new hb) hx1 (by omega) (he2.new hb) hx2 (by omega))
  have B2 := fun w' (hb : Below w.heap.size w w') => Lib.hid (refFilter_any _ ys a1 c1 ins a2 c2 outs w' (hr.keep hb) hy (by omega) (he1.new hb) hx1 (by omega) (he2.new hb) hx2 (by omega))
  have HB1 := Lib.hid B1
  have HB2 := Lib.hid B2
  have hfl := filterS_len ys ins outs
  have HS := Lib.hid (show (filterS ys ins outs).length ≤ 60 by omega)
  clear B1 B2 hfl
  generalize filterS ys ins outs = fs at *
  generalize filterE ys ins outs = fe at *
  have q1 : (fe == fe) = true := by simp
  clear hr he1 he2 hx1 hx2 hy
  go_enter Tryd.func13, Tryd.ntmps13
  go_wp2_with fail
  refine SM.out.mono ?_
  rintro e w0 ⟨rfl, rfl⟩
  clear SM
  go_wp2_with fail
  refine (HB1.out _ (Below.refl _ _)).out.mono ?_
  rintro e w2 ⟨v2, rfl, hrow2, hb2⟩
  obtain ⟨va2, vc2, rfl, _⟩ := hrow2.slice
  have HR2 := Lib.hid hrow2
  have K2 := Lib.hid hb2
  clear hb2 hrow2
  go_wp2_with fail
  refine (HB2.out _ K2.out).out.mono ?_
  rintro e w3 ⟨v3, rfl, hrow3, hb3⟩
  obtain ⟨va3, vc3, rfl, _⟩ := hrow3.slice
  have HO3 := Lib.hid hrow3
  have HR3 := Lib.hid (HR2.out.keep hb3)
  have K3 := Lib.hid (K2.out.trans (hb3.mono K2.out.size))
  clear hb3 hrow3 K2 HR2
  go_wp2_with fail
  refine (filesEq_any _ _ _ _ _ _ HR3.out HO3.out (by have := HS.out; omega)).mono ?_
  rintro e w4 ⟨rfl, hb4⟩
  have K4 := Lib.hid (K3.out.trans (hb4.mono K3.out.size))
  clear hb4 HR3 HO3
  go_wp2_with fail
  refine (awake9_any _).mono ?_
  rintro e w6 ⟨rfl, hb6⟩
  go_wp2_with fail
  go_ret
  exact ⟨rfl, K4.out.trans (hb6.mono K4.out.size)⟩
end Go.Proofs.YtkfkfpfnpfpkaaaDoor
