/- The walks of FrameSums and FrameAdds. -/
import Derived.Test.YtjgoceebjmnjcaaDoorSumW
import Derived.Test.YtjgoceebjmnjcaaDoorRefSumW
import Derived.BigQuiet
import Derived.Deep.QuietTactic
import Derived.WalkKit
import Derived.WalkSpells
import Derived.Lib.Hide
import Derived.WalkLawsBesides
import Derived.Outline
set_option linter.unusedVariables false
namespace Go.Proofs.YtjgoceebjmnjcaaDoor
open Go.RowKit

set_option maxHeartbeats 400000 in
theorem frameSums_short (l : List UInt8) (w : World) (hl : l.length ≤ 4096) (ht : Tab w) :
    Calls Tryd.prog 3 #[.string ⟨l.toArray⟩] w fun e w' => e = .returned (.bool true) ∧ Below w.heap.size w w' := by
  have L := Lib.hid (show (⟨l.toArray⟩ : ByteArray).size = l.length from rfl)
  have C1 := Lib.hid (sum_any l w (by omega) ht)
  have C2 := Lib.hid (refSum_any l w (by omega))
  have T := Lib.hid ht
  clear ht
  go_enter Tryd.func3, Tryd.ntmps3
  go_wp2_with fail
  refine C1.out.mono ?_
  rintro e w1 ⟨rfl, rfl⟩
  go_wp2_with fail
  refine C2.out.mono ?_
  rintro e w2 ⟨rfl, hb⟩
  go_wp2_with fail
  refine (awake_any _ (T.out.below hb)).mono ?_
  rintro e w3 ⟨rfl, rfl⟩
  go_wp2
  go_ret
  exact ⟨rfl, hb⟩

set_option maxHeartbeats 400000 in
theorem frameSums_long (l : List UInt8) (w : World) (hl : 4096 < l.length) (hl2 : l.length ≤ 140737488351232) (ht : Tab w) :
    Calls Tryd.prog 3 #[.string ⟨l.toArray⟩] w fun e w' => e = .returned (.bool true) ∧ Below w.heap.size w w' := by
  have L := Lib.hid (show (⟨l.toArray⟩ : ByteArray).size = l.length from rfl)
  have E := take_toArray l 4096
  have hm : (l.take 4096).length ≤ 4096 := List.length_take_le _ _
  have C1 := Lib.hid (sum_any (l.take 4096) w (by omega) ht)
  have C2 := Lib.hid (refSum_any (l.take 4096) w (by omega))
  have T := Lib.hid ht
  clear ht
  go_enter Tryd.func3, Tryd.ntmps3
  go_wp2_with fail
  refine C1.out.mono ?_
  rintro e w1 ⟨rfl, rfl⟩
  go_wp2_with fail
  refine C2.out.mono ?_
  rintro e w2 ⟨rfl, hb⟩
  go_wp2_with fail
  refine (awake_any _ (T.out.below hb)).mono ?_
  rintro e w3 ⟨rfl, rfl⟩
  go_wp2
  go_ret
  exact ⟨rfl, hb⟩

theorem frameSums_walk (l : List UInt8) (hl : l.length ≤ 140737488351232) (w : World) (ht : Tab w) :
    Calls Tryd.prog 3 #[.string ⟨l.toArray⟩] w fun e w' => e = .returned (.bool true) ∧ Below w.heap.size w w' := by
  by_cases h : l.length ≤ 4096
  · exact frameSums_short l w h ht
  · exact frameSums_long l w (by omega) hl ht

theorem frameAdds_long (n : Int) (a b : List UInt8) (w : World) (h : 2048 < a.length ∨ 2048 < b.length) (ha : a.length ≤ 140737488351232) (hb : b.length ≤ 140737488351232) (ht : Tab w) :
    Calls Tryd.prog 4 #[.int .i64 n, .string ⟨a.toArray⟩, .string ⟨b.toArray⟩] w fun e w' => e = .returned (.bool true) ∧ Below w.heap.size w w' := by
  have L1 := Lib.hid (show (⟨a.toArray⟩ : ByteArray).size = a.length from rfl)
  have C := Lib.hid (awake_any w ht)
  have T := Lib.hid ht
  clear ht
  by_cases h1 : 2048 < a.length
  · clear h
    go_enter Tryd.func4, Tryd.ntmps4
    go_wp2_with fail
    refine C.out.mono ?_
    rintro e w1 ⟨rfl, rfl⟩
    go_wp2
    go_ret
    exact ⟨rfl, Below.refl _ _⟩
  · have h2 : 2048 < b.length := by omega
    clear h
    go_enter Tryd.func4, Tryd.ntmps4
    go_wp2_with fail
    refine C.out.mono ?_
    rintro e w1 ⟨rfl, rfl⟩
    go_wp2
    go_ret
    exact ⟨rfl, Below.refl _ _⟩

theorem toArray_append (a b : List UInt8) : (ByteArray.mk a.toArray) ++ (ByteArray.mk b.toArray) = ⟨(a ++ b).toArray⟩ := by
  rw [ByteArray.ext_iff]; simp

set_option maxHeartbeats 400000 in
theorem frameAdds_short (n : Int) (a b : List UInt8) (w : World) (ha : a.length ≤ 2048) (hb : b.length ≤ 2048) (ht : Tab w) :
    Calls Tryd.prog 4 #[.int .i64 n, .string ⟨a.toArray⟩, .string ⟨b.toArray⟩] w fun e w' => e = .returned (.bool true) ∧ Below w.heap.size w w' := by
  have L1 := Lib.hid (show (⟨a.toArray⟩ : ByteArray).size = a.length from rfl)
  obtain ⟨s, hs, hsn⟩ := mod_u32 n
  have C1 := Lib.hid (add_any n s a w hsn hs (by omega) ht)
  have C2 := Lib.hid (refAdd_any n s a w hsn hs (by omega))
  have hq := sumS_lt a
  have hab : (a ++ b).length ≤ 4096 := by rw [List.length_append]; omega
  have C3 := fun w' ht => Lib.hid (sum_any a w' (by omega) ht)
  have C4 := fun w' ht => Lib.hid (add_any (sumS a : Nat) (sumS a) b w' (by omega) (sumS_lt a) (by omega) ht)
  have C5 := fun w' ht => Lib.hid (sum_any (a ++ b) w' (by omega) ht)
  rw [sumS_append] at C5
  have E := toArray_append a b
  have T := Lib.hid ht
  clear ht hs hsn
  go_enter Tryd.func4, Tryd.ntmps4
  go_wp2_with fail
  refine C1.out.mono ?_
  rintro e w1 ⟨rfl, rfl⟩
  go_wp2_with fail
  refine C2.out.mono ?_
  rintro e w2 ⟨rfl, hb⟩
  have T2 := Lib.hid (T.out.below hb)
  go_wp2_with fail
  refine (C3 _ T2.out).out.mono ?_
  rintro e w3 ⟨rfl, rfl⟩
  go_wp2_with fail
  refine (C4 _ T2.out).out.mono ?_
  rintro e w3 ⟨rfl, rfl⟩
  go_wp2_with fail
  refine (C5 _ T2.out).out.mono ?_
  rintro e w3 ⟨rfl, rfl⟩
  go_wp2_with fail
  refine (awake_any _ T2.out).mono ?_
  rintro e w3 ⟨rfl, rfl⟩
  go_wp2
  go_ret
  exact ⟨rfl, hb⟩

theorem frameAdds_walk (n : Int) (_ : -9223372036854775808 ≤ n) (_ : n ≤ 9223372036854775807) (a : List UInt8) (ha : a.length ≤ 140737488351232) (b : List UInt8) (hb : b.length ≤ 140737488351232) (w : World) (ht : Tab w) :
    Calls Tryd.prog 4 #[.int .i64 n, .string ⟨a.toArray⟩, .string ⟨b.toArray⟩] w fun e w' => e = .returned (.bool true) ∧ Below w.heap.size w w' := by
  by_cases h : 2048 < a.length ∨ 2048 < b.length
  · exact frameAdds_long n a b w h ha hb ht
  · exact frameAdds_short n a b w (by omega) (by omega) ht
end Go.Proofs.YtjgoceebjmnjcaaDoor
