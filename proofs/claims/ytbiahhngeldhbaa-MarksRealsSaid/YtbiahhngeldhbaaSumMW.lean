/- The walks of marks.Sum and marks.Real; a real book. -/
import Derived.Test.YtbiahhngeldhbaaNewSumsW
import Derived.Test.YtbiahhngeldhbaaOfW
set_option linter.unusedVariables false
namespace Go.Proofs.Ytbiahhngeldhbaa
open Go.RowKit

/-- What SHA-256 begins with, as a state. -/
def H0 : St := ⟨bp 2 2, bp 3 2, bp 5 2, bp 7 2, bp 11 2, bp 13 2, bp 17 2, bp 19 2⟩
theorem H0_toL : H0.toL = HL := rfl
theorem H0_ok : H0.ok := by
  refine ⟨?_, ?_, ?_, ?_, ?_, ?_, ?_, ?_⟩ <;> exact bp_lt _ _

set_option maxRecDepth 100000 in
theorem sumM_any (l : List UInt8) (w : World) (hl : l.length ≤ 1000000) :
    Calls Try.prog 13 #[.string ⟨l.toArray⟩] w fun e w' => e = .returned (.string ⟨(shaS KL H0 l).toArray⟩) ∧ Below w.heap.size w w' := by
  have N := Lib.hid (newSums_any w)
  have O := Lib.hid (fun kb w' (h : SumsAt w' kb HL KL) => of_any kb H0 KL l w' H0_ok KL_length KL_lt hl h)
  generalize shaS KL H0 l = r at *
  go_enter Try.func13, Try.ntmps13
  go_wp2_with fail
  refine N.out.mono ?_
  rintro e w1 ⟨kb, rfl, hkb, hs, hb1⟩
  have HB := Lib.hid hb1
  have O1 := Lib.hid (O.out kb w1 hs)
  clear hs hb1 O N
  go_wp2_with fail
  refine O1.out.mono ?_
  rintro e w2 ⟨rfl, hb2⟩
  have HB2 := Lib.hid (HB.out.trans (hb2.mono HB.out.size))
  clear hb2
  go_wp2_with fail
  go_ret
  exact ⟨rfl, HB2.out⟩
end Go.Proofs.Ytbiahhngeldhbaa
