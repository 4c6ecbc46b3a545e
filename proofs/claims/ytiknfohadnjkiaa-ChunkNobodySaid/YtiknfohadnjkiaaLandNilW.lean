/- The landed box (chunk): a nil one. -/
import Derived.Test.YtiknfohadnjkiaaBoxC
import Derived.Test.YtiknfohadnjkiaaFrame
import Derived.Test.YtiknfohadnjkiaaGen
import Derived.Test.YtiknfohadnjkiaaOwnL
import Derived.Test.YtiknfohadnjkiaaRowN
import Derived.Test.YtiknfohadnjkiaaRows
import Derived.BigQuiet
import Derived.BigRegion
import Derived.Deep.QuietTactic
import Derived.Deep.RegionHeld3
import Derived.Laws.Concat
import Derived.Laws.OwnMore
import Derived.Laws.ResultCell
import Derived.Lib.Hide
import Derived.Outline
import Derived.WalkKit
import Derived.WalkLawsBesides
import Derived.WalkSpells
set_option linter.unusedVariables false
namespace Go.Proofs.Ytiknfohadnjkiaa
open Go.RowKit

set_option maxRecDepth 100000 in
set_option maxHeartbeats 2000000 in
theorem nilOf (w : World) : Calls Try.prog 15 #[.pointer none] w fun e w' => e = .returned (.int .i64 0) ∧ w = w' := by
  go_enter Try.func15, Try.ntmps15
  go_wp2_with fail
  go_ret
  exact ⟨rfl, rfl⟩
set_option maxRecDepth 100000 in
set_option maxHeartbeats 2000000 in
theorem nilC : NilC := by
  have OF := fun w => Lib.hid (nilOf w)
  refine ⟨?_, ?_, ?_, ?_, ?_, ?_⟩
  · intro p w hp
    obtain ⟨xa, xo, xt⟩ := p
    have hbA : Below w.heap.size w (w.alloc (.cells #[.int .i64 xa, .int .i64 xo, .string ⟨xt.toArray⟩] 40)) := (Below.refl _ w).alloc (Nat.le_refl _) _
    have HBA := Lib.hid hbA
    clear hbA
    unfold partV
    dsimp only
    go_enter Try.func19, Try.ntmps19
    go_wp2_with fail
    refine (OF _).out.mono ?_
    rintro e w1 ⟨rfl, rfl⟩
    go_wp2_with fail
    go_ret
    exact ⟨rfl, HBA.out⟩
  · intro w
    refine (OF w).out.mono ?_
    rintro e w1 ⟨rfl, rfl⟩
    exact ⟨rfl, Below.refl _ _⟩
  · intro w
    go_enter Try.func16, Try.ntmps16
    go_wp2_with fail
    go_ret
    exact ⟨rfl, Below.refl _ _⟩
  · intro most w hm
    go_enter Try.func20, Try.ntmps20
    go_wp2_with fail
    refine (OF _).out.mono ?_
    rintro e w1 ⟨rfl, rfl⟩
    go_wp2_with fail
    go_loopw [5, 9] (fun v5 v9 wr => v5 = .slice none 0 0 ∧ v9 = .int .i64 0 ∧ w = wr) (fun _ _ _ => 0)
    case atStart => exact ⟨rfl, rfl, rfl⟩
    case round =>
      obtain ⟨rfl, rfl, rfl⟩ := hrel
      go_wp2_with fail
      go_ret
      exact ⟨_, rfl, OwnN.nil _ _ _ _ _, Below.refl _ _⟩
  · intro w
    go_enter Try.func21, Try.ntmps21
    go_wp2_with fail
    refine (OF _).out.mono ?_
    rintro e w1 ⟨rfl, rfl⟩
    go_wp2_with fail
    exact bodyPost_ret (results_tmp2 Try.results21 _ _ _) rfl ⟨rfl, Below.refl _ _⟩
  · intro w
    go_enter Try.func22, Try.ntmps22
    go_wp2_with fail
    exact bodyPost_ret (results_none Try.results22 _ _ _) rfl ⟨rfl, Below.refl _ _⟩
end Go.Proofs.Ytiknfohadnjkiaa
