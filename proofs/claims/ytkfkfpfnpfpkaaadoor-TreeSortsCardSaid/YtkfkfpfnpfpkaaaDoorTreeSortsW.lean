/- The walk of TreeSorts. -/
import Derived.Test.YtkfkfpfnpfpkaaaDoorArgTree
import Derived.Test.YtkfkfpfnpfpkaaaDoorCopyN
import Derived.Test.YtkfkfpfnpfpkaaaDoorFitX
import Derived.Test.YtkfkfpfnpfpkaaaDoorFrame
import Derived.Test.YtkfkfpfnpfpkaaaDoorGen
import Derived.Test.YtkfkfpfnpfpkaaaDoorOwnL
import Derived.Test.YtkfkfpfnpfpkaaaDoorProg
import Derived.Test.YtkfkfpfnpfpkaaaDoorReadW
import Derived.Test.YtkfkfpfnpfpkaaaDoorRefSortW
import Derived.Test.YtkfkfpfnpfpkaaaDoorRowN
import Derived.Test.YtkfkfpfnpfpkaaaDoorRows
import Derived.Test.YtkfkfpfnpfpkaaaDoorShelf
import Derived.Test.YtkfkfpfnpfpkaaaDoorSoX
import Derived.Test.YtkfkfpfnpfpkaaaDoorSortX
import Derived.Test.YtkfkfpfnpfpkaaaDoorSortMath
import Derived.Test.YtkfkfpfnpfpkaaaDoorSortTW
import Derived.Test.YtkfkfpfnpfpkaaaDoorLwX
import Derived.Test.YtkfkfpfnpfpkaaaDoorTreeMath
import Derived.BigQuiet
import Derived.BigRegion
import Derived.Deep.Cut
import Derived.Deep.CutRange
import Derived.Deep.DeepCutAuto
import Derived.Deep.QuietTactic
import Derived.Deep.RegionHeld
import Derived.Laws.IdiomStrings
import Derived.Laws.OwnMore
import Derived.Laws.RangeAny
import Derived.Lib.Hide
import Derived.LoopIn
import Derived.LoopNIn
import Derived.LoopTactic
import Derived.OwnWalkIn
import Derived.RangeFuncBound
import Derived.RangeFuncCalls
import Derived.RangeFuncLeaves
import Derived.RangeFuncNested
import Derived.Shelf.Abstract
import Derived.Shelf.RegionOpen
import Derived.Shelf.Strings.SplitCore
import Derived.StillTail
import Derived.TacticsInMore
import Derived.WalkKit
import Derived.WalkLawsBesides
import Derived.WalkSpells
set_option linter.unusedVariables false
namespace Go.Proofs.YtkfkfpfnpfpkaaaDoor
open Go.RowKit

set_option maxRecDepth 100000 in
set_option maxHeartbeats 1000000 in
theorem treeSorts_walk (v : Value) (w : World) (h : FsIn w v) :
    Calls Tryd.prog 6 #[v] w fun e w' => e = .returned (.bool true) ∧ Below w.heap.size w w' := by
  obtain ⟨xs, hrow, hok, hlen⟩ := h
  have hrow := hrow.mono (M := fun _ => True) (fun _ _ => trivial)
  obtain ⟨va, vc, hv, hcap⟩ := hrow.slice
  subst hv
  have SM := Lib.hid (few9_any va vc xs w hrow)
  have hr := hrow.firsts 60
  have hy := fun x (hx : x ∈ xs.take 60) => hok x (List.mem_of_mem_take hx)
  have hl : (xs.take 60).length ≤ 60 := List.length_take_le _ _
  clear hrow hok hcap hlen
  generalize xs.take 60 = ys at *
  have HR := fun w' (hb : Below w.heap.size w w') => Lib.hid (hr.keep hb)
  have B1 := fun w' (hb : Below w.heap.size w w') => Lib.hid (tSort_any _ ys w' (hr.keep hb) hy (by omega))
  have B2 := fun w' (hb : Below w.heap.size w w') => Lib.hid (refSort_any _ ys w' (hr.keep hb) hy (by omega))
  have HB1 := Lib.hid B1
  have HB2 := Lib.hid B2
  have HS := Lib.hid (show (sortS ys).length ≤ 60 by rw [sortS_len _ ys rfl]; exact hl)
  clear B1 B2
  go_enter Tryd.func6, Tryd.ntmps6
  go_wp2_with fail
  refine SM.out.mono ?_
  rintro e w0 ⟨rfl, rfl⟩
  clear SM
  have hbA := (Below.refl w.heap.size w).alloc (Nat.le_refl _) (.cells #[] 42)
  have HRA := HR _ hbA
  have HOA : Hid (OwnN encF 3 (w.alloc (.cells #[] 42)) w.heap.size 42 (.slice (some ⟨w.heap.size, 0, none⟩) 0 0) ([] : List FileD)) := Lib.hid (World.ownsRow_lit w #[] 0 (Nat.le_refl _) (by decide) rfl)
  go_wp2_with (at_builtin; refine append_list (enc := encF) (k := 3) (w := w.alloc (.cells #[] 42)) (by rfl) (.tmp 7) (.tmp 8) 29 42 (.agg #[.string ByteArray.empty, .int .i64 0, .string ByteArray.empty]) 40 (by rfl) Tryd.underlying29 info_file (by rfl) (by decide) encF_ok w.heap.size (.slice (some ⟨w.heap.size, 0, none⟩) 0 0) ([] : List FileD) (by rfl) HOA.out (.slice va ys.length vc) ys (fun _ => True) (by rfl) HRA.out (by simp only [List.length_nil]; omega) (by unfold maxLen; simp only [List.length_nil]; omega) hbA.size ?_; intro v1 w1 hown1 ht1; obtain ⟨va1, vm1, vc1, rfl⟩ := own_slice hown1; rw [List.nil_append] at hown1; have HO1 := Lib.hid hown1; have HB1' := Lib.hid (hbA.trans ht1.bel); clear hown1 ht1)
  refine (HB1.out _ HB1'.out).out.mono ?_
  rintro e w2 ⟨v2, rfl, hrow2, hb2⟩
  obtain ⟨va2, vc2, rfl, _⟩ := hrow2.slice
  have HR2 := Lib.hid hrow2
  have K2 := Lib.hid (HB1'.out.trans (hb2.mono HB1'.out.size))
  have HO2 := Lib.hid (HO1.out.new hb2)
  clear hb2 hrow2 HB1'
  go_wp2_with fail
  refine (HB2.out _ K2.out).out.mono ?_
  rintro e w3 ⟨v3, rfl, hown3, hb3⟩
  obtain ⟨va3, vm3, vc3, rfl⟩ := own_slice hown3
  have HO3 := Lib.hid (OwnN.row encF_ok hown3)
  have HR3 := Lib.hid (HR2.out.keep hb3)
  have K3 := Lib.hid (K2.out.trans (hb3.mono K2.out.size))
  have HW3 := Lib.hid (HO2.out.new hb3)
  clear hb3 hown3 K2 HR2 HO2
  go_wp2_with fail
  refine (filesEq_any _ _ _ _ _ _ HR3.out HO3.out (by have := HS.out; omega)).mono ?_
  rintro e w4 ⟨rfl, hb4⟩
  have K4 := Lib.hid (K3.out.trans (hb4.mono K3.out.size))
  have HW4 := Lib.hid (OwnN.row encF_ok (HW3.out.new hb4))
  have HR4 := HR _ K4.out
  clear hb4 HW3 HR3 HO3
  go_wp2_with fail
  refine (filesEq_any _ _ _ _ _ _ HW4.out HR4.out (by omega)).mono ?_
  rintro e w5 ⟨rfl, hb5⟩
  have K5 := Lib.hid (K4.out.trans (hb5.mono K4.out.size))
  clear hb5
  go_wp2_with fail
  refine (awake9_any _).mono ?_
  rintro e w6 ⟨rfl, hb6⟩
  go_wp2_with fail
  go_ret
  exact ⟨rfl, K5.out.trans (hb6.mono K5.out.size)⟩
end Go.Proofs.YtkfkfpfnpfpkaaaDoor
