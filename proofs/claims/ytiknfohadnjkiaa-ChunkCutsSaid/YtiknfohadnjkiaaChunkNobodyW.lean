/- ChunkNobody: the walk (gen/chunklaws.py). -/
import Derived.Test.YtiknfohadnjkiaaBoxC
import Derived.Test.YtiknfohadnjkiaaChunkAwakeW
import Derived.Test.YtiknfohadnjkiaaChunkMath
import Derived.Test.YtiknfohadnjkiaaFrame
import Derived.Test.YtiknfohadnjkiaaGen
import Derived.Test.YtiknfohadnjkiaaOwnL
import Derived.Test.YtiknfohadnjkiaaRefBoxW
import Derived.Test.YtiknfohadnjkiaaRefKeep2W
import Derived.Test.YtiknfohadnjkiaaRowN
import Derived.Test.YtiknfohadnjkiaaRows
import Derived.BigQuiet
import Derived.Deep.QuietTactic
import Derived.Deep.RegionHeld3
import Derived.Lib.Hide
import Derived.Outline
import Derived.WalkKit
import Derived.WalkLawsBesides
import Derived.WalkSpells
set_option linter.unusedVariables false
namespace Go.Proofs.Ytiknfohadnjkiaa
open Go.RowKit

set_option maxRecDepth 100000 in
set_option maxHeartbeats 4000000 in
theorem chunkNobody_walk_of (CU : CutC) (NC : NilC) (p : PartD) (n : Int) (hp : PartOk p) (hn : I64 n) (w : World) :
    Calls Try.prog 9 #[partV p, .int .i64 n] w fun e w' => e = .returned (.bool true) ∧ Below w.heap.size w w' := by
  have HN := Lib.hid NC
  have HP := Lib.hid (fun X => NC.put p X hp)
  obtain ⟨xa, xo, xt⟩ := p
  have hbA : Below w.heap.size w (w.alloc (.cells #[.int .i64 xa, .int .i64 xo, .string ⟨xt.toArray⟩] 40)) := (Below.refl _ w).alloc (Nat.le_refl _) _
  have HBA := Lib.hid hbA
  have hbx := heap_alloc_new w (.cells #[.int .i64 xa, .int .i64 xo, .string ⟨xt.toArray⟩] 40)
  unfold partV at *
  dsimp only at *
  clear hbA
  go_enter Try.func9, Try.ntmps9
  go_wp2_with fail
  generalize w.alloc (.cells #[.int .i64 xa, .int .i64 xo, .string ⟨xt.toArray⟩] 40) = wA at *
  obtain ⟨nb, hnb⟩ : ∃ nb, nb = w.heap.size := ⟨_, rfl⟩
  rw [← hnb] at hbx ⊢
  clear hnb
  refine (HN.out.text _).mono ?_
  rintro e w1 ⟨rfl, hb1⟩
  have HB1 := Lib.hid (HBA.out.trans (hb1.mono HBA.out.size))
  have HX1 := Lib.hid ((Kept.new hb1 (fun _ => False)).old hbx id)
  clear hb1 hbx HBA
  go_wp2_with fail
  refine (HN.out.clear _).mono ?_
  rintro e w2 ⟨rfl, hb2⟩
  have HB2 := Lib.hid (HB1.out.trans (hb2.mono HB1.out.size))
  have HX2 := Lib.hid ((Kept.new hb2 (fun _ => False)).old HX1.out id)
  clear hb2 HB1 HX1
  have k0 : w2.cell? ⟨nb, 0, none⟩ = some (.int .i64 xa) := by rw [cell_of_row _ _ _ _ _ _ HX2.out]; rfl
  have k1 : w2.cell? ⟨nb, 1, none⟩ = some (.int .i64 xo) := by rw [cell_of_row _ _ _ _ _ _ HX2.out]; rfl
  have k2 : w2.cell? ⟨nb, 2, none⟩ = some (.string ⟨xt.toArray⟩) := by rw [cell_of_row _ _ _ _ _ _ HX2.out]; rfl
  go_wp2_with fail
  refine (HP.out _).mono ?_
  rintro e w3 ⟨rfl, hb3⟩
  have HB3 := Lib.hid (HB2.out.trans (hb3.mono HB2.out.size))
  clear hb3 HB2 k0 k1 k2
  go_wp2_with fail
  refine (HN.out.of _).mono ?_
  rintro e w4 ⟨rfl, hb4⟩
  have HB4 := Lib.hid (HB3.out.trans (hb4.mono HB3.out.size))
  clear hb4 HB3
  go_wp2_with fail
  refine (HN.out.left _).mono ?_
  rintro e w5 ⟨rfl, hb5⟩
  have HB5 := Lib.hid (HB4.out.trans (hb5.mono HB4.out.size))
  clear hb5 HB4
  go_wp2_with fail
  refine (HN.out.missing n _ hn).mono ?_
  rintro e w6 ⟨v6, rfl, ho6, hb6⟩
  obtain ⟨a6, c6, hv6, _⟩ := (OwnN.row encI1_ok ho6).slice
  subst hv6
  have HB6 := Lib.hid (HB5.out.trans (hb6.mono HB5.out.size))
  clear hb6 HB5 ho6
  go_wp2_with fail
  refine (awake13_any CU _).mono ?_
  rintro e w9 ⟨rfl, hb9⟩
  have HB9 := Lib.hid (HB6.out.trans (hb9.mono HB6.out.size))
  clear hb9
  go_wp2_with fail
  go_ret
  exact ⟨rfl, HB9.out⟩
end Go.Proofs.Ytiknfohadnjkiaa
