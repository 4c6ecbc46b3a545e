/- The walks of TreeChecks, TreeMatches, TreeOrderly, TreeBytes. -/
import Derived.Test.YtkfkfpfnpfpkaaaDoorArgTree
import Derived.Test.YtkfkfpfnpfpkaaaDoorFrame
import Derived.Test.YtkfkfpfnpfpkaaaDoorGen
import Derived.Test.YtkfkfpfnpfpkaaaDoorMarkMath
import Derived.Test.YtkfkfpfnpfpkaaaDoorMatchMath
import Derived.Test.YtkfkfpfnpfpkaaaDoorOwnL
import Derived.Test.YtkfkfpfnpfpkaaaDoorProg
import Derived.Test.YtkfkfpfnpfpkaaaDoorReadW
import Derived.Test.YtkfkfpfnpfpkaaaDoorRefCheckW
import Derived.Test.YtkfkfpfnpfpkaaaDoorRefMatchW9
import Derived.Test.YtkfkfpfnpfpkaaaDoorRefPatW
import Derived.Test.YtkfkfpfnpfpkaaaDoorRowN
import Derived.Test.YtkfkfpfnpfpkaaaDoorRows
import Derived.Test.YtkfkfpfnpfpkaaaDoorShelf
import Derived.Test.YtkfkfpfnpfpkaaaDoorTreeLawsW
import Derived.Test.YtkfkfpfnpfpkaaaDoorTreeMath
import Derived.Test.YtkfkfpfnpfpkaaaDoorTreeW
import Derived.BigQuiet
import Derived.BigRegion
import Derived.Deep.Cut
import Derived.Deep.CutRange
import Derived.Deep.DeepCutAuto
import Derived.Deep.QuietTactic
import Derived.Deep.RegionHeld
import Derived.Laws.OwnMore
import Derived.Laws.RangeAny
import Derived.Lib.Hide
import Derived.LoopIn
import Derived.LoopNIn
import Derived.LoopTactic
import Derived.OwnWalkIn
import Derived.RangeFuncBound
import Derived.RangeFuncCalls
import Derived.RangeFuncLeaves
import Derived.RangeFuncNested
import Derived.Shelf.Abstract
import Derived.Shelf.RegionOpen
import Derived.Shelf.Strings.SplitCore
import Derived.TacticsInMore
import Derived.WalkKit
import Derived.WalkLawsBesides
import Derived.WalkSpells
set_option linter.unusedVariables false
namespace Go.Proofs.YtkfkfpfnpfpkaaaDoor
open Go.RowKit

set_option maxRecDepth 100000 in
set_option maxHeartbeats 1000000 in
theorem treeChecks_walk (v : Value) (w : World) (h : FsIn w v) :
    Calls Tryd.prog 5 #[v] w fun e w' => e = .returned (.bool true) ∧ Below w.heap.size w w' := by
  obtain ⟨xs, hrow, hok, hlen⟩ := h
  have hrow := hrow.mono (M := fun _ => True) (fun _ _ => trivial)
  obtain ⟨va, vc, hv, hcap⟩ := hrow.slice
  subst hv
  have key : ∀ (ys : List FileD) (hr : RowN encF 3 (fun _ => True) w (.slice va ys.length vc) ys) (hy : ∀ x ∈ ys, FileOk x) (hl : ys.length ≤ 300), Hid (Calls Tryd.prog 19 #[.slice va ys.length vc] w fun e w' => e = .returned (.int .i64 (checkS ys)) ∧ Below w.heap.size w w') ∧
      ∀ w', Below w.heap.size w w' → Hid (Calls Tryd.prog 20 #[.slice va ys.length vc] w' fun e w'' => e = .returned (.int .i64 (checkS ys)) ∧ Below w'.heap.size w' w'') :=
    fun ys hr hy hl => ⟨Lib.hid (tCheck_any _ ys w hr hy (by omega)), fun w' hb => Lib.hid (refCheck_any _ ys w' (hr.keep hb) hy (by omega))⟩
  by_cases hl : 300 < xs.length
  · have j : (300 : Int) < (xs.length : Int) := by omega
    have j2 : (300 : Int) ≤ (vc : Int) := by omega
    have ht : (xs.take 300).length = 300 := by rw [List.length_take]; omega
    have hr := hrow.take 300 (by omega)
    have K := key (xs.take 300) (by rw [ht]; exact hr) (fun x hx => hok x (List.mem_of_mem_take hx)) (by omega)
    rw [ht] at K
    have K1 := K.1
    have K2 := Lib.hid K.2
    generalize checkS (xs.take 300) = ce at *
    have hpp : (ce == ce) = true := by simp
    clear key K hr ht hrow hok
    go_enter Tryd.func5, Tryd.ntmps5
    go_wp2_with fail
    refine K1.out.mono ?_
    rintro e w1 ⟨rfl, hb1⟩
    have HB1 := Lib.hid hb1
    clear hb1
    go_wp2_with fail
    refine (K2.out w1 HB1.out).out.mono ?_
    rintro e w2 ⟨rfl, hb2⟩
    have HB2 := Lib.hid (HB1.out.trans (hb2.mono HB1.out.size))
    clear hb2
    go_wp2_with fail
    refine (awake9_any _).mono ?_
    rintro e w3 ⟨rfl, hb3⟩
    have HB3 := Lib.hid (HB2.out.trans (hb3.mono HB2.out.size))
    go_wp2_with fail
    go_ret
    exact ⟨rfl, HB3.out⟩
  · have j : ¬ (300 : Int) < (xs.length : Int) := by omega
    have K := key xs hrow hok (by omega)
    have K1 := K.1
    have K2 := Lib.hid K.2
    generalize checkS xs = ce at *
    have hpp : (ce == ce) = true := by simp
    clear key K hrow hok
    go_enter Tryd.func5, Tryd.ntmps5
    go_wp2_with fail
    refine K1.out.mono ?_
    rintro e w1 ⟨rfl, hb1⟩
    have HB1 := Lib.hid hb1
    clear hb1
    go_wp2_with fail
    refine (K2.out w1 HB1.out).out.mono ?_
    rintro e w2 ⟨rfl, hb2⟩
    have HB2 := Lib.hid (HB1.out.trans (hb2.mono HB1.out.size))
    clear hb2
    go_wp2_with fail
    refine (awake9_any _).mono ?_
    rintro e w3 ⟨rfl, hb3⟩
    have HB3 := Lib.hid (HB2.out.trans (hb3.mono HB2.out.size))
    go_wp2_with fail
    go_ret
    exact ⟨rfl, HB3.out⟩
set_option maxRecDepth 100000 in
set_option maxHeartbeats 1000000 in
theorem treeMatches_walk (p : Txt) (hp : p.length ≤ 140737488351232) (s : Txt) (hs : s.length ≤ 140737488351232) (w : World) :
    Calls Tryd.prog 12 #[.string ⟨p.toArray⟩, .string ⟨s.toArray⟩] w fun e w' => e = .returned (.bool true) ∧ Below w.heap.size w w' := by
  have P1 := fun w' => Lib.hid (tPattern_any p w' hp)
  have P2 := fun w' => Lib.hid (refPattern_any p w' hp)
  have M1 := fun w' => Lib.hid (tMatch_any p s w' hp hs)
  have M2 := fun w' => Lib.hid (refMatch9_any p s w' hp hs)
  generalize patternS p = pe at *
  generalize matchS p s = me at *
  have hpp : (pe == pe) = true := by simp
  have hmm : (me == me) = true := by simp
  go_enter Tryd.func12, Tryd.ntmps12
  go_wp2_with fail
  refine (P1 _).out.mono ?_
  rintro e w1 ⟨rfl, hb1⟩
  have HB1 := Lib.hid hb1
  clear hb1
  go_wp2_with fail
  refine (P2 _).out.mono ?_
  rintro e w2 ⟨rfl, hb2⟩
  have HB2 := Lib.hid (HB1.out.trans (hb2.mono HB1.out.size))
  clear hb2
  go_wp2_with fail
  refine (M1 _).out.mono ?_
  rintro e w3 ⟨rfl, hb3⟩
  have HB3 := Lib.hid (HB2.out.trans (hb3.mono HB2.out.size))
  clear hb3
  go_wp2_with fail
  refine (M2 _).out.mono ?_
  rintro e w4 ⟨rfl, hb4⟩
  have HB4 := Lib.hid (HB3.out.trans (hb4.mono HB3.out.size))
  clear hb4
  go_wp2_with fail
  refine (awake9_any _).mono ?_
  rintro e w5 ⟨rfl, hb5⟩
  have HB5 := Lib.hid (HB4.out.trans (hb5.mono HB4.out.size))
  go_wp2_with fail
  go_ret
  exact ⟨rfl, HB5.out⟩
end Go.Proofs.YtkfkfpfnpfpkaaaDoor
