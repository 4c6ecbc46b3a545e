/- The walk of the law MarksSums, once the document's Sum is walked (handed in as RS). -/
import Derived.Test.YtbiahhngeldhbaaRealW
import Derived.Test.YtbiahhngeldhbaaRefBookW
import Derived.Test.YtbiahhngeldhbaaRefShaW
set_option linter.unusedVariables false
namespace Go.Proofs.Ytbiahhngeldhbaa
open Go.RowKit

set_option maxRecDepth 100000 in
theorem sums_walk (RS : ∀ (l : List UInt8) (w : World), l.length ≤ 1000000 → Calls Try.prog 12 #[.string ⟨l.toArray⟩] w fun e w' => e = .returned (.string ⟨(shaS KL H0 l).toArray⟩) ∧ Below w.heap.size w w')
    (s : List UInt8) (w : World) (hs : s.length ≤ 140737488351232) :
    Calls Try.prog 3 #[.string ⟨s.toArray⟩] w fun e w' => e = .returned (.bool true) ∧ Below w.heap.size w w' := by
  have CUT := Lib.hid (cut_any s 4096 w (by decide) hs)
  have hl : (s.take 4096).length ≤ 1000000 := by rw [List.length_take]; omega
  have S1 := fun w' => Lib.hid (RS (s.take 4096) w' hl)
  have S2 := fun w' => Lib.hid (sumM_any (s.take 4096) w' hl)
  have MR := fun w' p kb h => Lib.hid (mark_real w' p kb (s.take 4096) h hl)
  unfold realM at MR
  generalize shaS KL H0 (s.take 4096) = r at *
  generalize s.take 4096 = t at *
  clear RS hs hl
  go_enter Try.func3, Try.ntmps3
  go_wp2_with fail
  refine CUT.out.mono ?_
  rintro e w' ⟨rfl, rfl⟩
  go_wp2_with fail
  refine (S1 _).out.mono ?_
  rintro e w1 ⟨rfl, hb1⟩
  have B1 := Lib.hid hb1; clear hb1
  go_wp2_with fail
  refine (S2 _).out.mono ?_
  rintro e w2 ⟨rfl, hb2⟩
  have B2 := Lib.hid (B1.out.trans (hb2.mono B1.out.size)); clear hb2
  go_wp2_with fail
  refine (real_any _).mono ?_
  rintro e w3 ⟨p, kb, rfl, hra, _, _, hb3⟩
  have B3 := Lib.hid (B2.out.trans (hb3.mono B2.out.size)); clear hb3
  have M3 := MR _ _ _ hra
  clear hra MR S1 S2
  go_wp2_with fail
  refine M3.out.mono ?_
  rintro e w4 ⟨rfl, hb4⟩
  have B4 := Lib.hid (B3.out.trans (hb4.mono B3.out.size)); clear hb4
  go_wp2_with fail
  refine (awake_any _).mono ?_
  rintro e w5 ⟨rfl, hb5⟩
  have B5 := Lib.hid (B4.out.trans (hb5.mono B4.out.size)); clear hb5
  go_wp2_with fail
  go_ret
  exact ⟨rfl, B5.out⟩
theorem marksSums_walk (s : List UInt8) (hs : s.length ≤ 140737488351232) (w : World) :
    Calls Try.prog 3 #[.string ⟨s.toArray⟩] w fun e w' => e = .returned (.bool true) ∧ Below w.heap.size w w' := sums_walk refSum_any s w hs
end Go.Proofs.Ytbiahhngeldhbaa
