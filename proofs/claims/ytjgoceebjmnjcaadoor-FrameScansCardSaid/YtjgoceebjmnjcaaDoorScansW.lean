/- The walk of the law FrameScans. -/
import Derived.Test.YtjgoceebjmnjcaaDoorTextsW
import Derived.Test.YtjgoceebjmnjcaaDoorSumsFW
set_option linter.unusedVariables false
namespace Go.Proofs.YtjgoceebjmnjcaaDoor
open Go.RowKit

set_option maxHeartbeats 400000 in
theorem frameScans_short (l : List UInt8) (w : World) (hl : l.length ≤ 2048) (ht : Tab w) (hT : BTab w) (hw : 1 < w.heap.size) :
    Calls Tryd.prog 7 #[.string ⟨l.toArray⟩] w fun e w' => e = .returned (.bool true) ∧ Below w.heap.size w w' := by
  have L := Lib.hid (show (⟨l.toArray⟩ : ByteArray).size = l.length from rfl)
  have C1 := Lib.hid (scan_go l w first_is (by omega) ht hT hw)
  have C2 := fun w => Lib.hid (refScan_go l w (by omega))
  have hx := scanS_few l
  have TS := fun w u v hu hv => Lib.hid (texts_same w u v (scanS l).1 hu hv (by omega))
  have T := Lib.hid ht
  clear ht hT hx
  generalize (scanS l).1 = r1 at *
  generalize (scanS l).2.1 = r2 at *
  generalize (scanS l).2.2 = r3 at *
  go_enter Tryd.func7, Tryd.ntmps7
  go_wp2_with fail
  refine C1.out.mono ?_
  rintro e w1 ⟨v1, rfl, ho1, hb1⟩
  go_wp2_with fail
  refine (C2 _).out.mono ?_
  rintro e w2 ⟨v2, rfl, ho2, hb2⟩
  have hb := below2 hb1 hb2
  go_wp2_with fail
  refine (TS _ _ _ (own_after ho1 hb2).rowlt ho2.rowlt).out.mono ?_
  rintro e w3 ⟨rfl, hb3⟩
  have hb' := below2 hb hb3
  go_wp2_with fail
  refine (awake_any _ (T.out.below hb')).mono ?_
  rintro e w4 ⟨rfl, rfl⟩
  go_wp2
  go_ret
  exact ⟨rfl, hb'⟩
theorem frameScans_long (l : List UInt8) (w : World) (hl : 2048 < l.length) (hl2 : l.length ≤ 140737488351232) (ht : Tab w) (hT : BTab w) (hw : 1 < w.heap.size) :
    Calls Tryd.prog 7 #[.string ⟨l.toArray⟩] w fun e w' => e = .returned (.bool true) ∧ Below w.heap.size w w' := by
  have L := Lib.hid (show (⟨l.toArray⟩ : ByteArray).size = l.length from rfl)
  have E := take_toArray l 2048
  have hm : (l.take 2048).length ≤ 2048 := List.length_take_le _ _
  have C1 := Lib.hid (scan_go (l.take 2048) w first_is (by omega) ht hT hw)
  have C2 := fun w => Lib.hid (refScan_go (l.take 2048) w (by omega))
  have hx := scanS_few (l.take 2048)
  have TS := fun w u v hu hv => Lib.hid (texts_same w u v (scanS (l.take 2048)).1 hu hv (by omega))
  have T := Lib.hid ht
  clear ht hT hx
  generalize (scanS (l.take 2048)).1 = r1 at *
  generalize (scanS (l.take 2048)).2.1 = r2 at *
  generalize (scanS (l.take 2048)).2.2 = r3 at *
  go_enter Tryd.func7, Tryd.ntmps7
  go_wp2_with fail
  refine C1.out.mono ?_
  rintro e w1 ⟨v1, rfl, ho1, hb1⟩
  go_wp2_with fail
  refine (C2 _).out.mono ?_
  rintro e w2 ⟨v2, rfl, ho2, hb2⟩
  have hb := below2 hb1 hb2
  go_wp2_with fail
  refine (TS _ _ _ (own_after ho1 hb2).rowlt ho2.rowlt).out.mono ?_
  rintro e w3 ⟨rfl, hb3⟩
  have hb' := below2 hb hb3
  go_wp2_with fail
  refine (awake_any _ (T.out.below hb')).mono ?_
  rintro e w4 ⟨rfl, rfl⟩
  go_wp2
  go_ret
  exact ⟨rfl, hb'⟩
theorem frameScans_walk (l : List UInt8) (hl : l.length ≤ 140737488351232) (w : World) (ht : Tab w) (hT : BTab w) :
    Calls Tryd.prog 7 #[.string ⟨l.toArray⟩] w fun e w' => e = .returned (.bool true) ∧ Below w.heap.size w w' := by
  by_cases h : l.length ≤ 2048
  · exact frameScans_short l w h ht hT hT.1
  · exact frameScans_long l w (by omega) hl ht hT hT.1
end Go.Proofs.YtjgoceebjmnjcaaDoor
