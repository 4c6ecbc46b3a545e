/- The walk of FrameJoins. -/
import Derived.Test.YtjgoceebjmnjcaaDoorMap4W
import Derived.Test.YtjgoceebjmnjcaaDoorRefSumW
import Derived.Test.YtjgoceebjmnjcaaDoorFourW
import Derived.WalkKit
import Derived.WalkSpells
import Derived.Lib.Hide
import Derived.WalkLawsBesides
set_option linter.unusedVariables false
namespace Go.Proofs.YtjgoceebjmnjcaaDoor
open Go.RowKit

theorem sum_join (a b : List UInt8) : stpN (8 * b.length) (sumS a) ^^^ sumS b = sumS (a ++ b) := by
  rw [sumS_append]
  have := addS_lin 0 (sumS a) b
  rw [Nat.zero_xor] at this
  rw [this, Nat.xor_comm]
  rfl

theorem frameJoins_long (a b : List UInt8) (w : World) (h : 2048 < a.length ∨ 2048 < b.length) (ha : a.length ≤ 140737488351232) (hb : b.length ≤ 140737488351232) (ht : Tab w) :
    Calls Tryd.prog 5 #[.string ⟨a.toArray⟩, .string ⟨b.toArray⟩] w fun e w' => e = .returned (.bool true) ∧ Below w.heap.size w w' := by
  have L1 := Lib.hid (show (⟨a.toArray⟩ : ByteArray).size = a.length from rfl)
  have C := Lib.hid (awake_any w ht)
  clear ht
  by_cases h1 : 2048 < a.length
  · clear h
    go_enter Tryd.func5, Tryd.ntmps5
    go_wp2_with fail
    refine C.out.mono ?_
    rintro e w1 ⟨rfl, rfl⟩
    go_wp2
    go_ret
    exact ⟨rfl, Below.refl _ _⟩
  · have h2 : 2048 < b.length := by omega
    clear h
    go_enter Tryd.func5, Tryd.ntmps5
    go_wp2_with fail
    refine C.out.mono ?_
    rintro e w1 ⟨rfl, rfl⟩
    go_wp2
    go_ret
    exact ⟨rfl, Below.refl _ _⟩

set_option maxHeartbeats 400000 in
theorem frameJoins_short (a b : List UInt8) (w : World) (ha : a.length ≤ 2048) (hb : b.length ≤ 2048) (ht : Tab w) (hT : BTab w) :
    Calls Tryd.prog 5 #[.string ⟨a.toArray⟩, .string ⟨b.toArray⟩] w fun e w' => e = .returned (.bool true) ∧ Below w.heap.size w w' := by
  have L1 := Lib.hid (show (⟨a.toArray⟩ : ByteArray).size = a.length from rfl)
  have C1 := Lib.hid (sum_any a w (by omega) ht)
  have C2 := Lib.hid (sum_any b w (by omega) ht)
  have C3 := Lib.hid (join_any (sumS a) (sumS b) b.length w (sumS_lt a) (sumS_lt b) (by omega) ht hT)
  rw [sum_join] at C3
  have hab : (a ++ b).length ≤ 1000000 := by rw [List.length_append]; omega
  have C4 := fun w' => Lib.hid (refSum_any (a ++ b) w' hab)
  have E := toArray_append a b
  have T := Lib.hid ht
  clear ht hT
  generalize sumS (a ++ b) = q at *
  go_enter Tryd.func5, Tryd.ntmps5
  go_wp2_with fail
  refine C1.out.mono ?_
  rintro e w1 ⟨rfl, rfl⟩
  go_wp2_with fail
  refine C2.out.mono ?_
  rintro e w1 ⟨rfl, rfl⟩
  go_wp2_with fail
  refine C3.out.mono ?_
  rintro e w1 ⟨rfl, hb1⟩
  go_wp2_with fail
  refine (C4 _).out.mono ?_
  rintro e w2 ⟨rfl, hb2⟩
  have hb := below2 hb1 hb2
  go_wp2_with fail
  refine (awake_any _ (T.out.below hb)).mono ?_
  rintro e w3 ⟨rfl, rfl⟩
  go_wp2
  go_ret
  exact ⟨rfl, hb⟩

theorem frameJoins_walk (a : List UInt8) (ha : a.length ≤ 140737488351232) (b : List UInt8) (hb : b.length ≤ 140737488351232) (w : World) (ht : Tab w) (hT : BTab w) :
    Calls Tryd.prog 5 #[.string ⟨a.toArray⟩, .string ⟨b.toArray⟩] w fun e w' => e = .returned (.bool true) ∧ Below w.heap.size w w' := by
  by_cases h : 2048 < a.length ∨ 2048 < b.length
  · exact frameJoins_long a b w h ha hb ht
  · exact frameJoins_short a b w (by omega) (by omega) ht hT
end Go.Proofs.YtjgoceebjmnjcaaDoor
