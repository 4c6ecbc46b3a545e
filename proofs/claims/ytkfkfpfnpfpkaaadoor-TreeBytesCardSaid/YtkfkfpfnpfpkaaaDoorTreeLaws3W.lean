/- The walks of TreeOrderly, TreeSorts, TreeBytes. -/
import Derived.Test.YtkfkfpfnpfpkaaaDoorFrame
import Derived.Test.YtkfkfpfnpfpkaaaDoorGen
import Derived.Test.YtkfkfpfnpfpkaaaDoorMarkMath
import Derived.Test.YtkfkfpfnpfpkaaaDoorOwnL
import Derived.Test.YtkfkfpfnpfpkaaaDoorProg
import Derived.Test.YtkfkfpfnpfpkaaaDoorReadW
import Derived.Test.YtkfkfpfnpfpkaaaDoorRowN
import Derived.Test.YtkfkfpfnpfpkaaaDoorRows
import Derived.Test.YtkfkfpfnpfpkaaaDoorShelf
import Derived.Test.YtkfkfpfnpfpkaaaDoorTreeLawsW
import Derived.Test.YtkfkfpfnpfpkaaaDoorTreeMath
import Derived.Test.YtkfkfpfnpfpkaaaDoorTreeW
import Derived.BigQuiet
import Derived.BigRegion
import Derived.Deep.Cut
import Derived.Deep.CutRange
import Derived.Deep.DeepCutAuto
import Derived.Deep.QuietTactic
import Derived.Deep.RegionHeld
import Derived.Deep.Slices
import Derived.Deep.Strs
import Derived.Laws.IdiomStrings
import Derived.Laws.OwnMore
import Derived.Laws.RangeAny
import Derived.Lib.Hide
import Derived.Lib.SmallJoins
import Derived.LoopIn
import Derived.LoopNIn
import Derived.LoopTactic
import Derived.OwnWalkIn
import Derived.RangeFuncBound
import Derived.RangeFuncCalls
import Derived.RangeFuncLeaves
import Derived.RangeFuncNested
import Derived.Shelf.Abstract
import Derived.Shelf.RegionOpen
import Derived.Shelf.Strings.SplitCore
import Derived.TacticsInMore
import Derived.WalkKit
import Derived.WalkLawsBesides
import Derived.WalkSpells
set_option linter.unusedVariables false
namespace Go.Proofs.YtkfkfpfnpfpkaaaDoor
open Go.RowKit

set_option maxRecDepth 100000 in
theorem sign9_any (n : Int) (w : World) : Calls Tryd.prog 17 #[.int .i64 n] w fun e w' => e = .returned (.int .i64 (sgn n)) ∧ w = w' := by
  by_cases h1 : n < 0
  · have HR := Lib.hid (show sgn n = -1 from if_pos h1)
    go_enter Tryd.func17, Tryd.ntmps17
    go_wp2_with fail
    go_ret
    exact ⟨by rw [HR.out]; rfl, rfl⟩
  · by_cases h2 : 0 < n
    · have HR := Lib.hid (show sgn n = 1 by unfold sgn; rw [if_neg h1, if_pos h2])
      go_enter Tryd.func17, Tryd.ntmps17
      go_wp2_with fail
      go_ret
      exact ⟨by rw [HR.out]; rfl, rfl⟩
    · have HR := Lib.hid (show sgn n = 0 by unfold sgn; rw [if_neg h1, if_neg h2])
      go_enter Tryd.func17, Tryd.ntmps17
      go_wp2_with fail
      go_ret
      exact ⟨by rw [HR.out]; rfl, rfl⟩
set_option maxRecDepth 100000 in
set_option maxHeartbeats 1000000 in
theorem treeOrderly_walk (a : Txt) (ha : a.length ≤ 140737488351232) (b : Txt) (hb : b.length ≤ 140737488351232) (c : Txt) (hc : c.length ≤ 140737488351232) (w : World) :
    Calls Tryd.prog 4 #[.string ⟨a.toArray⟩, .string ⟨b.toArray⟩, .string ⟨c.toArray⟩] w fun e w' => e = .returned (.bool true) ∧ Below w.heap.size w w' := by
  have O1 := fun w' => Lib.hid (tOrder_any a b w' ha hb)
  have O2 := fun w' => Lib.hid (tOrder_any b c w' hb hc)
  have O3 := fun w' => Lib.hid (tOrder_any a c w' ha hc)
  have O4 := fun w' => Lib.hid (tOrder_any b a w' hb ha)
  have hn := ordS_neg a b
  have ht := ordS_trans a b c
  obtain ⟨bb, hb1⟩ : ∃ bb : Bool, ((ordS a b : Int) == 0) = bb := ⟨_, rfl⟩
  have hb2 : (a == b) = bb := by
    rw [← hb1]
    by_cases h : a = b
    · rw [h, ordS_self]; simp
    · rw [show (a == b) = false by simp [h]]
      symm
      rw [beq_eq_false_iff_ne]
      exact fun e => h (ordS_eq a b e)
  have hrg := ordS_range a b
  generalize ordS a b = x at *
  generalize ordS b c = y at *
  generalize ordS a c = z at *
  generalize ordS b a = u at *
  have q0 : wrap64 (-x) = -x := by unfold wrap64; omega
  have q1 : (u != -x) = false := by rw [hn]; simp
  have hcase : 0 < x ∨ (¬ 0 < x ∧ 0 < y) ∨ (¬ 0 < x ∧ ¬ 0 < y ∧ z ≤ 0 ∧ z < 0) ∨ (¬ 0 < x ∧ ¬ 0 < y ∧ z ≤ 0 ∧ ¬ z < 0 ∧ x = 0 ∧ y = 0) := by
    by_cases h1 : 0 < x
    · exact .inl h1
    · by_cases h2 : 0 < y
      · exact .inr (.inl ⟨h1, h2⟩)
      · obtain ⟨h3, h4⟩ := ht (by omega) (by omega)
        by_cases h5 : z < 0
        · exact .inr (.inr (.inl ⟨h1, h2, h3, h5⟩))
        · obtain ⟨h6, h7⟩ := h4 (by omega)
          exact .inr (.inr (.inr ⟨h1, h2, h3, h5, h6, h7⟩))
  have HC := Lib.hid hcase
  clear hn ht hcase hrg
  go_enter Tryd.func4, Tryd.ntmps4
  go_wp2_with fail
  refine (O1 _).out.mono ?_
  rintro e w1 ⟨n1, rfl, h1, hb1'⟩
  have HB1 := Lib.hid hb1'
  clear hb1' O1
  go_wp2_with fail
  refine (sign9_any n1 _).mono ?_
  rintro e w1' ⟨rfl, rfl⟩
  rw [h1]
  clear h1
  go_wp2_with fail
  refine (O2 _).out.mono ?_
  rintro e w2 ⟨n2, rfl, h2, hb2'⟩
  have HB2 := Lib.hid (HB1.out.trans (hb2'.mono HB1.out.size))
  clear hb2' O2 HB1
  go_wp2_with fail
  refine (sign9_any n2 _).mono ?_
  rintro e w2' ⟨rfl, rfl⟩
  rw [h2]
  clear h2
  go_wp2_with fail
  refine (O3 _).out.mono ?_
  rintro e w3 ⟨n3, rfl, h3, hb3'⟩
  have HB3 := Lib.hid (HB2.out.trans (hb3'.mono HB2.out.size))
  clear hb3' O3 HB2
  go_wp2_with fail
  refine (sign9_any n3 _).mono ?_
  rintro e w3' ⟨rfl, rfl⟩
  rw [h3]
  clear h3
  go_wp2_with fail
  refine (O4 _).out.mono ?_
  rintro e w4 ⟨n4, rfl, h4, hb4'⟩
  have HB4 := Lib.hid (HB3.out.trans (hb4'.mono HB3.out.size))
  clear hb4' O4 HB3
  go_wp2_with fail
  refine (sign9_any n4 _).mono ?_
  rintro e w4' ⟨rfl, rfl⟩
  rw [h4]
  clear h4
  rcases HC.out with c1 | ⟨c1, c2⟩ | ⟨c1, c2, c3, c4⟩ | ⟨c1, c2, c3, c4, c5, c6⟩
  · go_wp2_with fail
    refine (awake9_any _).mono ?_
    rintro e w5 ⟨rfl, hb5⟩
    go_wp2_with fail
    go_ret
    exact ⟨rfl, HB4.out.trans (hb5.mono HB4.out.size)⟩
  · go_wp2_with fail
    refine (awake9_any _).mono ?_
    rintro e w5 ⟨rfl, hb5⟩
    go_wp2_with fail
    go_ret
    exact ⟨rfl, HB4.out.trans (hb5.mono HB4.out.size)⟩
  · go_wp2_with fail
    refine (awake9_any _).mono ?_
    rintro e w5 ⟨rfl, hb5⟩
    go_wp2_with fail
    go_ret
    exact ⟨rfl, HB4.out.trans (hb5.mono HB4.out.size)⟩
  · have hbt : bb = true := by rw [← hb1, c5]; rfl
    subst hbt
    clear hb1
    subst c5
    subst c6
    rw [Int.neg_zero] at q1
    clear q0
    go_wp2_with fail
    refine (awake9_any _).mono ?_
    rintro e w5 ⟨rfl, hb5⟩
    go_wp2_with fail
    go_ret
    exact ⟨rfl, HB4.out.trans (hb5.mono HB4.out.size)⟩
set_option maxRecDepth 100000 in
theorem few9_any (va : Option Addr) (vc : Nat) (xs : List FileD) (w : World) (hrow : RowN encF 3 (fun _ => True) w (.slice va xs.length vc) xs) :
    Calls Tryd.prog 21 #[.slice va xs.length vc] w fun e w' => e = .returned (.slice va (xs.take 60).length vc) ∧ w = w' := by
  obtain ⟨va', vc', hv, hcap⟩ := hrow.slice
  injection hv with e1 _ e3
  subst e1; subst e3
  by_cases h : 60 < xs.length
  · have j : (60 : Int) < (xs.length : Int) := by omega
    have j2 : (60 : Int) ≤ (vc : Int) := by omega
    have HL := Lib.hid (show min 60 xs.length = 60 by omega)
    clear hrow
    go_enter Tryd.func21, Tryd.ntmps21
    go_wp2_with fail
    go_ret
    exact ⟨by (try rw [List.length_take]); rw [HL.out]; rfl, rfl⟩
  · have j : ¬ (60 : Int) < (xs.length : Int) := by omega
    have HL := Lib.hid (show min 60 xs.length = xs.length by omega)
    clear hrow
    go_enter Tryd.func21, Tryd.ntmps21
    go_wp2_with fail
    go_ret
    exact ⟨by (try rw [List.length_take]); rw [HL.out]; rfl, rfl⟩
set_option maxRecDepth 100000 in
theorem some9_any (va : Option Addr) (vc : Nat) (xs : List ItemD) (w : World) (hrow : RowN encI 4 (fun _ => True) w (.slice va xs.length vc) xs) :
    Calls Tryd.prog 29 #[.slice va xs.length vc] w fun e w' => e = .returned (.slice va (xs.take 100).length vc) ∧ w = w' := by
  obtain ⟨va', vc', hv, hcap⟩ := hrow.slice
  injection hv with e1 _ e3
  subst e1; subst e3
  by_cases h : 100 < xs.length
  · have j : (100 : Int) < (xs.length : Int) := by omega
    have j2 : (100 : Int) ≤ (vc : Int) := by omega
    have HL := Lib.hid (show min 100 xs.length = 100 by omega)
    clear hrow
    go_enter Tryd.func29, Tryd.ntmps29
    go_wp2_with fail
    go_ret
    exact ⟨by (try rw [List.length_take]); rw [HL.out]; rfl, rfl⟩
  · have j : ¬ (100 : Int) < (xs.length : Int) := by omega
    have HL := Lib.hid (show min 100 xs.length = xs.length by omega)
    clear hrow
    go_enter Tryd.func29, Tryd.ntmps29
    go_wp2_with fail
    go_ret
    exact ⟨by (try rw [List.length_take]); rw [HL.out]; rfl, rfl⟩
theorem RowN.firsts {α : Type} {enc : α → List Value} {k : Nat} {N : Nat → Prop} {w : World} {a : Option Addr} {c : Nat} {xs : List α} (h : RowN enc k N w (.slice a xs.length c) xs) (n : Nat) : RowN enc k N w (.slice a (xs.take n).length c) (xs.take n) := by
  by_cases hn : n ≤ xs.length
  · have := h.take n hn
    have e : (xs.take n).length = n := by rw [List.length_take]; omega
    rw [e]
    exact this
  · rw [List.take_of_length_le (by omega)]
    exact h
end Go.Proofs.YtkfkfpfnpfpkaaaDoor
