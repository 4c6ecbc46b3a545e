/- Landed tree: fitsName, walked. -/
import Derived.Test.YtkfkfpfnpfpkaaaDoorFitsBW
import Derived.Test.YtkfkfpfnpfpkaaaDoorFitsMath
import Derived.Test.YtkfkfpfnpfpkaaaDoorFrame
import Derived.Test.YtkfkfpfnpfpkaaaDoorGen
import Derived.Test.YtkfkfpfnpfpkaaaDoorGreedyMath
import Derived.Test.YtkfkfpfnpfpkaaaDoorMarkMath
import Derived.Test.YtkfkfpfnpfpkaaaDoorMatchMath
import Derived.Test.YtkfkfpfnpfpkaaaDoorOwnL
import Derived.Test.YtkfkfpfnpfpkaaaDoorProg
import Derived.Test.YtkfkfpfnpfpkaaaDoorReadW
import Derived.Test.YtkfkfpfnpfpkaaaDoorRefPatW
import Derived.Test.YtkfkfpfnpfpkaaaDoorRowN
import Derived.Test.YtkfkfpfnpfpkaaaDoorRows
import Derived.BigQuiet
import Derived.Deep.QuietTactic
import Derived.Lib.Hide
import Derived.WalkKit
import Derived.WalkLawsBesides
import Derived.WalkSpells
set_option linter.unusedVariables false
namespace Go.Proofs.YtkfkfpfnpfpkaaaDoor
open Go.RowKit

theorem RowM.each {w : World} {base g cap : Nat} {l : Txt} (h : RowM w base g cap l) : EachG encB w (some ⟨g, 0, none⟩) l := fun i hi => ⟨g, 0, rfl, by rw [Nat.zero_add]; exact h.cell i hi⟩
set_option maxRecDepth 100000 in
theorem fitsName_any (p s : Txt) (w : World) (hp : p.length ≤ 100000) (hs : s.length ≤ 100000) :
    Calls Tryd.prog 116 #[encS p, encS s] w fun e w' => e = .returned (.bool (inS p s)) ∧ Below w.heap.size w w' := by
  rw [← fitG_inS]
  unfold encS
  obtain ⟨cap1, w1, hc1, hr1, hb1⟩ := RowM.conv (P := Tryd.prog) w p 9 82 Tryd.underlying9 Tryd.underlying82 Tryd.underlying5
  obtain ⟨cap2, w2, hc2, hr2, hb2⟩ := RowM.conv (P := Tryd.prog) w1 s 9 82 Tryd.underlying9 Tryd.underlying82 Tryd.underlying5
  have HB := Lib.hid (hb1.trans (hb2.mono hb1.size))
  have FB := Lib.hid (fitsB_any (some ⟨w.heap.size, 0, none⟩) (some ⟨w1.heap.size, 0, none⟩) cap1 cap2 p s w2 (hr1.each.new hb2) hr2.each (by omega) (by omega))
  clear hr1 hb1 hr2 hb2
  generalize fitG anyB oneB p s = res at *
  go_enter Tryd.func116, Tryd.ntmps116
  go_wp2_with fail
  refine FB.out.mono ?_
  rintro e w3 ⟨rfl, hb3⟩
  go_wp2_with fail
  go_ret
  exact ⟨rfl, HB.out.trans (hb3.mono HB.out.size)⟩
end Go.Proofs.YtkfkfpfnpfpkaaaDoor
