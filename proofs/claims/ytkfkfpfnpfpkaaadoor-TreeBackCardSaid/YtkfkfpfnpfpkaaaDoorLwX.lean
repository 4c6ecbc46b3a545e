/- Several texts in one: TreeLawsW, TreeLaws3W. -/
import Derived.Test.YtkfkfpfnpfpkaaaDoorArgTree
import Derived.Test.YtkfkfpfnpfpkaaaDoorArgs3
import Derived.Test.YtkfkfpfnpfpkaaaDoorFrame
import Derived.Test.YtkfkfpfnpfpkaaaDoorGen
import Derived.Test.YtkfkfpfnpfpkaaaDoorMarkMath
import Derived.Test.YtkfkfpfnpfpkaaaDoorMatchMath
import Derived.Test.YtkfkfpfnpfpkaaaDoorOwnL
import Derived.Test.YtkfkfpfnpfpkaaaDoorProg
import Derived.Test.YtkfkfpfnpfpkaaaDoorReadW
import Derived.Test.YtkfkfpfnpfpkaaaDoorRefNamesW
import Derived.Test.YtkfkfpfnpfpkaaaDoorRowN
import Derived.Test.YtkfkfpfnpfpkaaaDoorRows
import Derived.Test.YtkfkfpfnpfpkaaaDoorShelf
import Derived.Test.YtkfkfpfnpfpkaaaDoorTreeMath
import Derived.Test.YtkfkfpfnpfpkaaaDoorTcX
import Derived.BigQuiet
import Derived.BigRegion
import Derived.Deep.Cut
import Derived.Deep.CutRange
import Derived.Deep.DeepCutAuto
import Derived.Deep.QuietTactic
import Derived.Deep.RegionHeld
import Derived.Laws.IdiomStrings
import Derived.Laws.OwnMore
import Derived.Laws.RangeAny
import Derived.Lib.Hide
import Derived.LoopIn
import Derived.LoopNIn
import Derived.LoopTactic
import Derived.OwnWalkIn
import Derived.RangeFuncBound
import Derived.RangeFuncCalls
import Derived.RangeFuncLeaves
import Derived.RangeFuncNested
import Derived.Shelf.Abstract
import Derived.Shelf.RegionOpen
import Derived.Shelf.Strings.SplitCore
import Derived.TacticsInMore
import Derived.WalkKit
import Derived.WalkLawsBesides
import Derived.WalkSpells
import Derived.Deep.Slices
import Derived.Deep.Strs
import Derived.Lib.SmallJoins
/- The laws' awake, sign, few; the walks of TreePaths, TreeChecks. -/
set_option linter.unusedVariables false
namespace Go.Proofs.YtkfkfpfnpfpkaaaDoor
open Go.RowKit

def p1 : Txt := [97, 47, 98]
def p2 : Txt := [97, 45, 98]
def m1 : Txt := [97, 47, 42, 42, 47, 99, 63]
def m2 : Txt := [97, 47, 98, 47, 98, 47, 99, 100]
theorem ord_12 : ordS p1 p2 = -1 := by decide +kernel
theorem match_12 : matchS m1 m2 = true := by decide +kernel
theorem match_no : matchS [42] p1 = false := by decide +kernel
def ab : List FileD := [⟨[97], 0, []⟩, ⟨p1, 0, []⟩]
theorem check_ab : checkS ab = 9 := by decide +kernel
theorem sgn_neg {n : Int} (h : sgn n = -1) : n < 0 := by
  unfold sgn at h
  by_cases h1 : n < 0
  · exact h1
  · rw [if_neg h1] at h
    by_cases h2 : 0 < n
    · rw [if_pos h2] at h; exact absurd h (by decide)
    · rw [if_neg h2] at h; exact absurd h (by decide)
theorem ab_row (w : World) : RowN encF 3 (fun _ => True) (w.alloc (.cells (flatN encF ab).toArray 42)) (.slice (some ⟨w.heap.size, 0, none⟩) 2 2) ab := by
  refine ⟨some ⟨w.heap.size, 0, none⟩, 2, rfl, by decide, fun i hi => ⟨w.heap.size, 0, rfl, trivial, fun r u hu => ?_⟩⟩
  rw [cell_of_row _ _ _ _ _ _ (heap_alloc_new _ _), Nat.zero_add, List.getElem?_toArray]
  have hr : r < 3 := by rw [← encF_ok.len ab[i]]; exact (List.getElem?_eq_some_iff.1 hu).1
  rw [flatN_get encF_ok ab i hi r hr]
  exact hu
theorem ab_ok : ∀ x ∈ ab, FileOk x := by
  intro x hx
  simp [ab] at hx
  rcases hx with rfl | rfl <;> exact ⟨by simp [p1], by simp, by simp⟩
set_option maxRecDepth 100000 in
set_option maxHeartbeats 1000000 in
theorem awake9_any (w : World) : Calls Tryd.prog 16 #[] w fun e w' => e = .returned (.bool true) ∧ Below w.heap.size w w' := by
  have OR := Lib.hid (tOrder_any p1 p2 w (by decide) (by decide))
  have M1 := fun w' => Lib.hid (tMatch_any m1 m2 w' (by decide) (by decide))
  have M2 := fun w' => Lib.hid (tMatch_any [42] p1 w' (by decide) (by decide))
  have CK := fun (w' : World) => Lib.hid (tCheck_any _ ab (w'.alloc (.cells (flatN encF ab).toArray 42)) (ab_row w') ab_ok (by decide))
  rw [match_12] at M1
  rw [match_no] at M2
  rw [check_ab] at CK
  go_enter Tryd.func16, Tryd.ntmps16
  go_wp2_with fail
  refine OR.out.mono ?_
  rintro e w1 ⟨n, rfl, hn, hb1⟩
  have j := sgn_neg (hn.trans ord_12)
  have HB1 := Lib.hid hb1
  clear hn hb1 OR
  go_wp2_with fail
  refine (M1 _).out.mono ?_
  rintro e w2 ⟨rfl, hb2⟩
  have HB2 := Lib.hid (HB1.out.trans (hb2.mono HB1.out.size))
  clear hb2 HB1 M1
  go_wp2_with fail
  refine (M2 _).out.mono ?_
  rintro e w3 ⟨rfl, hb3⟩
  have HB3 := Lib.hid (HB2.out.trans (hb3.mono HB2.out.size))
  clear hb3 HB2 M2
  go_wp2_with fail
  refine (CK w3).out.mono ?_
  rintro e w4 ⟨rfl, hb4⟩
  have HB4 := Lib.hid ((HB3.out.alloc HB3.out.size (.cells (flatN encF ab).toArray 42)).trans (hb4.mono (by have := HB3.out.size; simp; omega)))
  clear hb4
  go_wp2_with fail
  go_ret
  exact ⟨rfl, HB4.out⟩
set_option maxRecDepth 100000 in
theorem treePaths_walk (s : Txt) (hs : s.length ≤ 140737488351232) (w : World) :
    Calls Tryd.prog 3 #[.string ⟨s.toArray⟩] w fun e w' => e = .returned (.bool true) ∧ Below w.heap.size w w' := by
  have PA := Lib.hid (tPath_any s w hs)
  have RA := fun w' => Lib.hid (refPath_any s w' hs)
  generalize pathS s = pe at *
  have hpp : (pe == pe) = true := by simp
  go_enter Tryd.func3, Tryd.ntmps3
  go_wp2_with fail
  refine PA.out.mono ?_
  rintro e w1 ⟨rfl, hb1⟩
  have HB1 := Lib.hid hb1
  clear hb1
  go_wp2_with fail
  refine (RA _).out.mono ?_
  rintro e w2 ⟨rfl, hb2⟩
  have HB2 := Lib.hid (HB1.out.trans (hb2.mono HB1.out.size))
  clear hb2
  go_wp2_with fail
  refine (awake9_any _).mono ?_
  rintro e w3 ⟨rfl, hb3⟩
  have HB3 := Lib.hid (HB2.out.trans (hb3.mono HB2.out.size))
  go_wp2_with fail
  go_ret
  exact ⟨rfl, HB3.out⟩
end Go.Proofs.YtkfkfpfnpfpkaaaDoor
/- The walks of TreeOrderly, TreeSorts, TreeBytes. -/
set_option linter.unusedVariables false
namespace Go.Proofs.YtkfkfpfnpfpkaaaDoor
open Go.RowKit

set_option maxRecDepth 100000 in
theorem sign9_any (n : Int) (w : World) : Calls Tryd.prog 17 #[.int .i64 n] w fun e w' => e = .returned (.int .i64 (sgn n)) ∧ w = w' := by
  by_cases h1 : n < 0
  · have HR := Lib.hid (show sgn n = -1 from if_pos h1)
    go_enter Tryd.func17, Tryd.ntmps17
    go_wp2_with fail
    go_ret
    exact ⟨by rw [HR.out]; rfl, rfl⟩
  · by_cases h2 : 0 < n
    · have HR := Lib.hid (show sgn n = 1 by unfold sgn; rw [if_neg h1, if_pos h2])
      go_enter Tryd.func17, Tryd.ntmps17
      go_wp2_with fail
      go_ret
      exact ⟨by rw [HR.out]; rfl, rfl⟩
    · have HR := Lib.hid (show sgn n = 0 by unfold sgn; rw [if_neg h1, if_neg h2])
      go_enter Tryd.func17, Tryd.ntmps17
      go_wp2_with fail
      go_ret
      exact ⟨by rw [HR.out]; rfl, rfl⟩
set_option maxRecDepth 100000 in
set_option maxHeartbeats 1000000 in
theorem treeOrderly_walk (a : Txt) (ha : a.length ≤ 140737488351232) (b : Txt) (hb : b.length ≤ 140737488351232) (c : Txt) (hc : c.length ≤ 140737488351232) (w : World) :
    Calls Tryd.prog 4 #[.string ⟨a.toArray⟩, .string ⟨b.toArray⟩, .string ⟨c.toArray⟩] w fun e w' => e = .returned (.bool true) ∧ Below w.heap.size w w' := by
  have O1 := fun w' => Lib.hid (tOrder_any a b w' ha hb)
  have O2 := fun w' => Lib.hid (tOrder_any b c w' hb hc)
  have O3 := fun w' => Lib.hid (tOrder_any a c w' ha hc)
  have O4 := fun w' => Lib.hid (tOrder_any b a w' hb ha)
  have hn := ordS_neg a b
  have ht := ordS_trans a b c
  obtain ⟨bb, hb1⟩ : ∃ bb : Bool, ((ordS a b : Int) == 0) = bb := ⟨_, rfl⟩
  have hb2 : (a == b) = bb := by
    rw [← hb1]
    by_cases h : a = b
    · rw [h, ordS_self]; simp
    · rw [show (a == b) = false by simp [h]]
      symm
      rw [beq_eq_false_iff_ne]
      exact fun e => h (ordS_eq a b e)
  have hrg := ordS_range a b
  generalize ordS a b = x at *
  generalize ordS b c = y at *
  generalize ordS a c = z at *
  generalize ordS b a = u at *
  have q0 : wrap64 (-x) = -x := by unfold wrap64; omega
  have q1 : (u != -x) = false := by rw [hn]; simp
  have hcase : 0 < x ∨ (¬ 0 < x ∧ 0 < y) ∨ (¬ 0 < x ∧ ¬ 0 < y ∧ z ≤ 0 ∧ z < 0) ∨ (¬ 0 < x ∧ ¬ 0 < y ∧ z ≤ 0 ∧ ¬ z < 0 ∧ x = 0 ∧ y = 0) := by
    by_cases h1 : 0 < x
    · exact .inl h1
    · by_cases h2 : 0 < y
      · exact .inr (.inl ⟨h1, h2⟩)
      · obtain ⟨h3, h4⟩ := ht (by omega) (by omega)
        by_cases h5 : z < 0
        · exact .inr (.inr (.inl ⟨h1, h2, h3, h5⟩))
        · obtain ⟨h6, h7⟩ := h4 (by omega)
          exact .inr (.inr (.inr ⟨h1, h2, h3, h5, h6, h7⟩))
  have HC := Lib.hid hcase
  clear hn ht hcase hrg
  go_enter Tryd.func4, Tryd.ntmps4
  go_wp2_with fail
  refine (O1 _).out.mono ?_
  rintro e w1 ⟨n1, rfl, h1, hb1'⟩
  have HB1 := Lib.hid hb1'
  clear hb1' O1
  go_wp2_with fail
  refine (sign9_any n1 _).mono ?_
  rintro e w1' ⟨rfl, rfl⟩
  rw [h1]
  clear h1
  go_wp2_with fail
  refine (O2 _).out.mono ?_
  rintro e w2 ⟨n2, rfl, h2, hb2'⟩
  have HB2 := Lib.hid (HB1.out.trans (hb2'.mono HB1.out.size))
  clear hb2' O2 HB1
  go_wp2_with fail
  refine (sign9_any n2 _).mono ?_
  rintro e w2' ⟨rfl, rfl⟩
  rw [h2]
  clear h2
  go_wp2_with fail
  refine (O3 _).out.mono ?_
  rintro e w3 ⟨n3, rfl, h3, hb3'⟩
  have HB3 := Lib.hid (HB2.out.trans (hb3'.mono HB2.out.size))
  clear hb3' O3 HB2
  go_wp2_with fail
  refine (sign9_any n3 _).mono ?_
  rintro e w3' ⟨rfl, rfl⟩
  rw [h3]
  clear h3
  go_wp2_with fail
  refine (O4 _).out.mono ?_
  rintro e w4 ⟨n4, rfl, h4, hb4'⟩
  have HB4 := Lib.hid (HB3.out.trans (hb4'.mono HB3.out.size))
  clear hb4' O4 HB3
  go_wp2_with fail
  refine (sign9_any n4 _).mono ?_
  rintro e w4' ⟨rfl, rfl⟩
  rw [h4]
  clear h4
  rcases HC.out with c1 | ⟨c1, c2⟩ | ⟨c1, c2, c3, c4⟩ | ⟨c1, c2, c3, c4, c5, c6⟩
  · go_wp2_with fail
    refine (awake9_any _).mono ?_
    rintro e w5 ⟨rfl, hb5⟩
    go_wp2_with fail
    go_ret
    exact ⟨rfl, HB4.out.trans (hb5.mono HB4.out.size)⟩
  · go_wp2_with fail
    refine (awake9_any _).mono ?_
    rintro e w5 ⟨rfl, hb5⟩
    go_wp2_with fail
    go_ret
    exact ⟨rfl, HB4.out.trans (hb5.mono HB4.out.size)⟩
  · go_wp2_with fail
    refine (awake9_any _).mono ?_
    rintro e w5 ⟨rfl, hb5⟩
    go_wp2_with fail
    go_ret
    exact ⟨rfl, HB4.out.trans (hb5.mono HB4.out.size)⟩
  · have hbt : bb = true := by rw [← hb1, c5]; rfl
    subst hbt
    clear hb1
    subst c5
    subst c6
    rw [Int.neg_zero] at q1
    clear q0
    go_wp2_with fail
    refine (awake9_any _).mono ?_
    rintro e w5 ⟨rfl, hb5⟩
    go_wp2_with fail
    go_ret
    exact ⟨rfl, HB4.out.trans (hb5.mono HB4.out.size)⟩
set_option maxRecDepth 100000 in
theorem few9_any (va : Option Addr) (vc : Nat) (xs : List FileD) (w : World) (hrow : RowN encF 3 (fun _ => True) w (.slice va xs.length vc) xs) :
    Calls Tryd.prog 21 #[.slice va xs.length vc] w fun e w' => e = .returned (.slice va (xs.take 60).length vc) ∧ w = w' := by
  obtain ⟨va', vc', hv, hcap⟩ := hrow.slice
  injection hv with e1 _ e3
  subst e1; subst e3
  by_cases h : 60 < xs.length
  · have j : (60 : Int) < (xs.length : Int) := by omega
    have j2 : (60 : Int) ≤ (vc : Int) := by omega
    have HL := Lib.hid (show min 60 xs.length = 60 by omega)
    clear hrow
    go_enter Tryd.func21, Tryd.ntmps21
    go_wp2_with fail
    go_ret
    exact ⟨by (try rw [List.length_take]); rw [HL.out]; rfl, rfl⟩
  · have j : ¬ (60 : Int) < (xs.length : Int) := by omega
    have HL := Lib.hid (show min 60 xs.length = xs.length by omega)
    clear hrow
    go_enter Tryd.func21, Tryd.ntmps21
    go_wp2_with fail
    go_ret
    exact ⟨by (try rw [List.length_take]); rw [HL.out]; rfl, rfl⟩
set_option maxRecDepth 100000 in
theorem some9_any (va : Option Addr) (vc : Nat) (xs : List ItemD) (w : World) (hrow : RowN encI 4 (fun _ => True) w (.slice va xs.length vc) xs) :
    Calls Tryd.prog 29 #[.slice va xs.length vc] w fun e w' => e = .returned (.slice va (xs.take 100).length vc) ∧ w = w' := by
  obtain ⟨va', vc', hv, hcap⟩ := hrow.slice
  injection hv with e1 _ e3
  subst e1; subst e3
  by_cases h : 100 < xs.length
  · have j : (100 : Int) < (xs.length : Int) := by omega
    have j2 : (100 : Int) ≤ (vc : Int) := by omega
    have HL := Lib.hid (show min 100 xs.length = 100 by omega)
    clear hrow
    go_enter Tryd.func29, Tryd.ntmps29
    go_wp2_with fail
    go_ret
    exact ⟨by (try rw [List.length_take]); rw [HL.out]; rfl, rfl⟩
  · have j : ¬ (100 : Int) < (xs.length : Int) := by omega
    have HL := Lib.hid (show min 100 xs.length = xs.length by omega)
    clear hrow
    go_enter Tryd.func29, Tryd.ntmps29
    go_wp2_with fail
    go_ret
    exact ⟨by (try rw [List.length_take]); rw [HL.out]; rfl, rfl⟩
theorem RowN.firsts {α : Type} {enc : α → List Value} {k : Nat} {N : Nat → Prop} {w : World} {a : Option Addr} {c : Nat} {xs : List α} (h : RowN enc k N w (.slice a xs.length c) xs) (n : Nat) : RowN enc k N w (.slice a (xs.take n).length c) (xs.take n) := by
  by_cases hn : n ≤ xs.length
  · have := h.take n hn
    have e : (xs.take n).length = n := by rw [List.length_take]; omega
    rw [e]
    exact this
  · rw [List.take_of_length_le (by omega)]
    exact h
end Go.Proofs.YtkfkfpfnpfpkaaaDoor
