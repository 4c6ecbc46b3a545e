/- The walks of FrameFrames. -/
import Derived.Test.YtjgoceebjmnjcaaDoorAllW
import Derived.Test.YtjgoceebjmnjcaaDoorMake
import Derived.BigQuiet
import Derived.WalkKit
import Derived.WalkSpells
import Derived.Lib.Hide
import Derived.WalkLawsBesides
import Derived.Outline
set_option linter.unusedVariables false
namespace Go.Proofs.YtjgoceebjmnjcaaDoor
open Go.RowKit

theorem row_two (w : World) (a b : List UInt8) (e : TypeId) :
    Row encT (· < (w.alloc (.cells #[.string ⟨a.toArray⟩, .string ⟨b.toArray⟩] e)).heap.size) (w.alloc (.cells #[.string ⟨a.toArray⟩, .string ⟨b.toArray⟩] e)) (.slice (some ⟨w.heap.size, 0, none⟩) 2 2) [a, b] := by
  refine ⟨some ⟨w.heap.size, 0, none⟩, 2, rfl, fun i hi => ⟨w.heap.size, 0, rfl, by simp, ?_⟩⟩
  match i, hi with
  | 0, _ => simp
  | 1, _ => simp
set_option maxHeartbeats 1000000 in
theorem frames_no (l : List UInt8) (w : World) (hl : l.length ≤ 4096) (ht : Tab w) :
    Calls Tryd.prog 9 #[.string ⟨l.toArray⟩, .bool true] w fun e w' => e = .returned (.bool true) ∧ Below w.heap.size w w' := by
  have L := Lib.hid (show (⟨l.toArray⟩ : ByteArray).size = l.length from rfl)
  have T := Lib.hid ht; clear ht
  obtain ⟨z1, w1, hr1, hown1, hb1⟩ := make_zeros (P := Tryd.prog) w 41 5 Tryd.underlying41 info_u8 w.heap.size (65537 - l.length) (65537 - (l.length : Int)) (by omega) (by omega) (Nat.le_refl _)
  have c1 := own_string (P := Tryd.prog) w1 w.heap.size 41 9 5 z1 _ Tryd.underlying41 Tryd.underlying5 Tryd.underlying9 hown1
  obtain ⟨z2, w2, hr2, hown2, hb2⟩ := make_zeros (P := Tryd.prog) w1 41 5 Tryd.underlying41 info_u8 w1.heap.size 65537 65537 rfl (by omega) (Nat.le_refl _)
  have c2 := own_string (P := Tryd.prog) w2 w1.heap.size 41 9 5 z2 _ Tryd.underlying41 Tryd.underlying5 Tryd.underlying9 hown2
  have E := toArray_append l (List.replicate (65537 - l.length) 0)
  have hlen : (l ++ List.replicate (65537 - l.length) 0).length = 65537 := by rw [List.length_append, List.length_replicate]; omega
  have F := Lib.hid (frame_no (l ++ List.replicate (65537 - l.length) 0) w1 (by omega) (by omega))
  have hq2 : (List.replicate 65537 (0 : UInt8)).length = 65537 := List.length_replicate
  have hq1 : (List.replicate (65537 - l.length) (0 : UInt8)).length ≤ 65537 := by rw [List.length_replicate]; omega
  have hm2 : ¬ (List.replicate 65537 (0 : UInt8)).length ≤ 65536 := by omega
  have hm3 : (List.replicate 65537 (0 : UInt8)).length ≤ 70000 := by omega
  have HR1 := Lib.hid hr1
  have HR2 := Lib.hid hr2
  have C1 := Lib.hid c1
  have C2 := Lib.hid c2
  clear hr1 hr2 c1 c2 hown1 hown2 hlen hq2
  generalize List.replicate 65537 (0 : UInt8) = q2 at *
  generalize l ++ List.replicate (65537 - l.length) 0 = m at *
  generalize List.replicate (65537 - l.length) (0 : UInt8) = q1 at *
  have A := fun w' v hrow ht => Lib.hid (all_any v [l, q2] w' hrow (by simp) (by intro x hx; simp at hx; rcases hx with rfl | rfl <;> omega) ht)
  have ha : allS [l, q2] = ([], 4) := by unfold allS; rw [if_neg (fun h => hm2 (h q2 (by simp)))]
  rw [ha] at A
  clear ha hm2
  go_enter Tryd.func9, Tryd.ntmps9
  go_wp2
  rw [HR1.out]
  go_wp2
  rw [C1.out]
  go_wp2_with fail
  refine F.out.mono ?_
  rintro e w' ⟨rfl, rfl⟩
  go_wp2
  rw [HR2.out]
  go_wp2
  rw [C2.out]
  go_wp2_with fail
  have hb3 : Below w.heap.size w (w2.alloc (.cells #[.string ⟨l.toArray⟩, .string ⟨q2.toArray⟩] 9)) := (hb1.trans (hb2.mono hb1.size)).alloc (Nat.le_trans hb1.size hb2.size) _
  refine (A _ _ (row_two w2 l q2 9) (T.out.below hb3)).out.mono ?_
  rintro e w4 ⟨rfl, hb4⟩
  have hb5 := hb3.trans (hb4.mono hb3.size)
  go_wp2_with fail
  refine (awake_any _ (T.out.below hb5)).mono ?_
  rintro e w3 ⟨rfl, rfl⟩
  go_wp2
  go_ret
  exact ⟨rfl, hb5⟩

set_option maxHeartbeats 1000000 in
theorem frames_ok (l m : List UInt8) (w : World) (hlm : l = m) (hm : m.length ≤ 4096) (ht : Tab w) :
    Calls Tryd.prog 9 #[.string ⟨l.toArray⟩, .bool false] w fun e w' => e = .returned (.bool true) ∧ Below w.heap.size w w' := by
  have L := Lib.hid (show (⟨l.toArray⟩ : ByteArray).size = l.length from rfl)
  subst l
  have F := Lib.hid (frame_ok m w (by omega) ht)
  have G := fun w => Lib.hid (refFrame_ok m w (by omega))
  have T := Lib.hid ht; clear ht
  generalize frameB m = f at *
  go_enter Tryd.func9, Tryd.ntmps9
  go_wp2_with fail
  refine F.out.mono ?_
  rintro e w1 ⟨rfl, hb1⟩
  go_wp2_with fail
  refine (G _).out.mono ?_
  rintro e w2 ⟨rfl, hb2⟩
  have hb := hb1.trans (hb2.mono hb1.size)
  go_wp2_with fail
  refine (awake_any _ (T.out.below hb)).mono ?_
  rintro e w3 ⟨rfl, rfl⟩
  go_wp2
  go_ret
  exact ⟨rfl, hb⟩

set_option maxHeartbeats 1000000 in
theorem frames_okL (l m : List UInt8) (w : World) (hl : 4096 < l.length) (hl2 : l.length ≤ 140737488351232) (hlm : l.take 4096 = m) (hm : m.length ≤ 4096) (ht : Tab w) :
    Calls Tryd.prog 9 #[.string ⟨l.toArray⟩, .bool false] w fun e w' => e = .returned (.bool true) ∧ Below w.heap.size w w' := by
  have L := Lib.hid (show (⟨l.toArray⟩ : ByteArray).size = l.length from rfl)
  have E := take_toArray l 4096
  rw [hlm] at E
  clear hlm
  have F := Lib.hid (frame_ok m w (by omega) ht)
  have G := fun w => Lib.hid (refFrame_ok m w (by omega))
  have T := Lib.hid ht; clear ht
  generalize frameB m = f at *
  go_enter Tryd.func9, Tryd.ntmps9
  go_wp2_with fail
  refine F.out.mono ?_
  rintro e w1 ⟨rfl, hb1⟩
  go_wp2_with fail
  refine (G _).out.mono ?_
  rintro e w2 ⟨rfl, hb2⟩
  have hb := hb1.trans (hb2.mono hb1.size)
  go_wp2_with fail
  refine (awake_any _ (T.out.below hb)).mono ?_
  rintro e w3 ⟨rfl, rfl⟩
  go_wp2
  go_ret
  exact ⟨rfl, hb⟩

set_option maxHeartbeats 1000000 in
theorem frames_noL (k l : List UInt8) (w : World) (hk : 4096 < k.length) (hk2 : k.length ≤ 140737488351232) (hkl : k.take 4096 = l) (hl : l.length ≤ 4096) (ht : Tab w) :
    Calls Tryd.prog 9 #[.string ⟨k.toArray⟩, .bool true] w fun e w' => e = .returned (.bool true) ∧ Below w.heap.size w w' := by
  have K := take_toArray k 4096
  rw [hkl] at K
  clear hkl
  have T := Lib.hid ht; clear ht
  obtain ⟨z1, w1, hr1, hown1, hb1⟩ := make_zeros (P := Tryd.prog) w 41 5 Tryd.underlying41 info_u8 w.heap.size (65537 - l.length) (65537 - (l.length : Int)) (by omega) (by omega) (Nat.le_refl _)
  have c1 := own_string (P := Tryd.prog) w1 w.heap.size 41 9 5 z1 _ Tryd.underlying41 Tryd.underlying5 Tryd.underlying9 hown1
  obtain ⟨z2, w2, hr2, hown2, hb2⟩ := make_zeros (P := Tryd.prog) w1 41 5 Tryd.underlying41 info_u8 w1.heap.size 65537 65537 rfl (by omega) (Nat.le_refl _)
  have c2 := own_string (P := Tryd.prog) w2 w1.heap.size 41 9 5 z2 _ Tryd.underlying41 Tryd.underlying5 Tryd.underlying9 hown2
  have E := toArray_append l (List.replicate (65537 - l.length) 0)
  have hlen : (l ++ List.replicate (65537 - l.length) 0).length = 65537 := by rw [List.length_append, List.length_replicate]; omega
  have F := Lib.hid (frame_no (l ++ List.replicate (65537 - l.length) 0) w1 (by omega) (by omega))
  have hq2 : (List.replicate 65537 (0 : UInt8)).length = 65537 := List.length_replicate
  have hq1 : (List.replicate (65537 - l.length) (0 : UInt8)).length ≤ 65537 := by rw [List.length_replicate]; omega
  have hm2 : ¬ (List.replicate 65537 (0 : UInt8)).length ≤ 65536 := by omega
  have hm3 : (List.replicate 65537 (0 : UInt8)).length ≤ 70000 := by omega
  have HR1 := Lib.hid hr1
  have HR2 := Lib.hid hr2
  have C1 := Lib.hid c1
  have C2 := Lib.hid c2
  clear hr1 hr2 c1 c2 hown1 hown2 hlen hq2
  generalize List.replicate 65537 (0 : UInt8) = q2 at *
  generalize l ++ List.replicate (65537 - l.length) 0 = m at *
  generalize List.replicate (65537 - l.length) (0 : UInt8) = q1 at *
  have A := fun w' v hrow ht => Lib.hid (all_any v [l, q2] w' hrow (by simp) (by intro x hx; simp at hx; rcases hx with rfl | rfl <;> omega) ht)
  have ha : allS [l, q2] = ([], 4) := by unfold allS; rw [if_neg (fun h => hm2 (h q2 (by simp)))]
  rw [ha] at A
  clear ha hm2
  go_enter Tryd.func9, Tryd.ntmps9
  go_wp2
  rw [HR1.out]
  go_wp2
  rw [C1.out]
  go_wp2_with fail
  refine F.out.mono ?_
  rintro e w' ⟨rfl, rfl⟩
  go_wp2
  rw [HR2.out]
  go_wp2
  rw [C2.out]
  go_wp2_with fail
  have hb3 : Below w.heap.size w (w2.alloc (.cells #[.string ⟨l.toArray⟩, .string ⟨q2.toArray⟩] 9)) := (hb1.trans (hb2.mono hb1.size)).alloc (Nat.le_trans hb1.size hb2.size) _
  refine (A _ _ (row_two w2 l q2 9) (T.out.below hb3)).out.mono ?_
  rintro e w4 ⟨rfl, hb4⟩
  have hb5 := hb3.trans (hb4.mono hb3.size)
  go_wp2_with fail
  refine (awake_any _ (T.out.below hb5)).mono ?_
  rintro e w3 ⟨rfl, rfl⟩
  go_wp2
  go_ret
  exact ⟨rfl, hb5⟩

theorem frameFrames_walk (l : List UInt8) (hl : l.length ≤ 140737488351232) (b : Bool) (w : World) (ht : Tab w) :
    Calls Tryd.prog 9 #[.string ⟨l.toArray⟩, .bool b] w fun e w' => e = .returned (.bool true) ∧ Below w.heap.size w w' := by
  have hm : (l.take 4096).length ≤ 4096 := List.length_take_le _ _
  by_cases h : l.length ≤ 4096
  · cases b with
    | true => exact frames_no l w h ht
    | false => exact frames_ok l l w rfl h ht
  · cases b with
    | true => exact frames_noL l _ w (by omega) hl rfl hm ht
    | false => exact frames_okL l _ w (by omega) hl rfl hm ht
end Go.Proofs.YtjgoceebjmnjcaaDoor
