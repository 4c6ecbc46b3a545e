/- The walk of the law DeltaSame. -/
import Derived.Test.YtfblkhmhelmjlaaTabX
import Derived.Test.YtfblkhmhelmjlaaBookW
import Derived.Test.YtfblkhmhelmjlaaDelX
import Derived.Test.YtfblkhmhelmjlaaFrame
import Derived.Test.YtfblkhmhelmjlaaGen
import Derived.Test.YtfblkhmhelmjlaaMarkMath
import Derived.Test.YtfblkhmhelmjlaaRollX
import Derived.Test.YtfblkhmhelmjlaaOfDW
import Derived.Test.YtfblkhmhelmjlaaOfIW
import Derived.Test.YtfblkhmhelmjlaaOwnL
import Derived.Test.YtfblkhmhelmjlaaProg
import Derived.Test.YtfblkhmhelmjlaaReadW
import Derived.Test.YtfblkhmhelmjlaaRowKeep
import Derived.Test.YtfblkhmhelmjlaaRows
import Derived.Test.YtfblkhmhelmjlaaSentW
import Derived.Test.YtfblkhmhelmjlaaShelf
import Derived.Test.YtfblkhmhelmjlaaSignMath
import Derived.Test.YtfblkhmhelmjlaaSortX
import Derived.Test.YtfblkhmhelmjlaaSortEW
import Derived.BigQuiet
import Derived.BigRegion
import Derived.Deep.AppendLies
import Derived.Deep.CutBlock
import Derived.Deep.DeepCutAuto
import Derived.Deep.LoopGhost
import Derived.Deep.QuietTactic
import Derived.Deep.RegionHeld3
import Derived.Deep.RegionLaw
import Derived.IntWalk
import Derived.Laws.BitsAllLaws
import Derived.Laws.MakeOwn
import Derived.Laws.Rows
import Derived.Laws.Tables
import Derived.Lib.Hide
import Derived.Outline
import Derived.Sort.Walk0
import Derived.StillTailTactics
import Derived.WalkKit
import Derived.WalkLawsBesides
import Derived.WalkSpells
set_option linter.unusedVariables false
namespace Go.Proofs.Ytfblkhmhelmjlaa
open Go.RowKit

theorem sent_copy (n : Nat) : sentS (copyS n) = 0 := by unfold copyS; split <;> rfl
set_option maxRecDepth 100000 in
set_option maxHeartbeats 4000000 in
theorem deltaSame_walk (s : Txt) (hs : s.length ≤ 140737488351232) (z : Int) (hz1 : -9223372036854775808 ≤ z) (hz2 : z ≤ 9223372036854775807) (w : World) :
    Calls Try.prog 8 #[.string ⟨s.toArray⟩, .int .i64 z] w fun e w' => e = .returned (.bool true) ∧ Below w.heap.size w w' := by
  have CT := fun w' => Lib.hid (cutD_any s 3000 w' (by decide) hs)
  have hl : (s.take 3000).length ≤ 3000 := List.length_take_le _ _
  generalize s.take 3000 = l at *
  by_cases hz : z < 16 ∨ 1024 < z
  · have OF := fun bp w' => Lib.hid (ofD_arg bp l l z w' hz hl)
    clear hz
    go_enter Try.func8, Try.ntmps8
    go_wp2_with fail
    refine (CT _).out.mono ?_
    rintro e w' ⟨rfl, rfl⟩
    go_wp2_with fail
    refine (ideal_any _).mono ?_
    rintro e w1 ⟨pb, bm, rfl, hid1, hp, hbm, hb1⟩
    have HB1 := Lib.hid hb1; clear hb1 hid1 hp hbm
    go_wp2_with fail
    refine (OF _ _).out.mono ?_
    rintro e w2 ⟨rfl, hb2⟩
    have hbb := below_self_alloc w2 (delC [] [] 0 (.slice none 0 0))
    have HB2 := Lib.hid ((HB1.out.trans (hb2.mono HB1.out.size)).trans (hbb.mono (Nat.le_trans HB1.out.size hb2.size)))
    clear hb2 hbb
    have q1 : ((1 : Int) != 0) = true := rfl
    go_wp2_with fail
    refine (awake_any _).mono ?_
    rintro e w7 ⟨rfl, hb7⟩
    go_wp2_with fail
    go_ret
    exact ⟨rfl, HB2.out.trans (hb7.mono HB2.out.size)⟩
  · obtain ⟨B, rfl⟩ : ∃ B : Nat, z = (B : Int) := ⟨z.toNat, by omega⟩
    have OF := Lib.hid (fun pb bm w' h1 h2 h3 h4 => ofI_ok pb bm B l l w' w (by omega) (by omega) hl hl h1 h2 h3 h4)
    have HS := Lib.hid (stepsI_same (B := B) (by omega) l)
    have HSN := Lib.hid (sent_copy l.length)
    have HCL := Lib.hid (show (copyS l.length).length ≤ 2000000 by unfold copyS; split <;> simp)
    clear hz
    go_enter Try.func8, Try.ntmps8
    go_wp2_with fail
    refine (CT _).out.mono ?_
    rintro e w' ⟨rfl, rfl⟩
    go_wp2_with fail
    refine (ideal_any _).mono ?_
    rintro e w1 ⟨pb, bm, rfl, hid1, hp, hbm, hb1⟩
    have OF1 := Lib.hid (OF.out pb bm w1 hid1 hb1 hp hbm)
    clear OF hid1 hp hbm hb1
    go_wp2_with fail
    refine OF1.out.mono ?_
    rintro e w2 ⟨v, S, b1, b2, rfl, ho, hid2, hbel, _, _, _, _, _, heq⟩
    rw [HS.out] at ho
    have hbe := heq rfl
    clear heq
    subst hbe
    have hbb := below_self_alloc w2 (delC b1 b1 l.length v)
    have R3 := Lib.hid (ho.row.keep hbb)
    obtain ⟨av, cv, hv⟩ := R3.out.slice
    have c0 : (w2.alloc (delC b1 b1 l.length v)).cell? ⟨w2.heap.size, 0, none⟩ = some (.string ⟨b1.toArray⟩) := by rw [cell_of_row _ _ _ _ _ _ (heap_alloc_new _ _)]; rfl
    have c1 : (w2.alloc (delC b1 b1 l.length v)).cell? ⟨w2.heap.size, 1, none⟩ = some (.string ⟨b1.toArray⟩) := by rw [cell_of_row _ _ _ _ _ _ (heap_alloc_new _ _)]; rfl
    have c3 : (w2.alloc (delC b1 b1 l.length v)).cell? ⟨w2.heap.size, 3, none⟩ = some v := by rw [cell_of_row _ _ _ _ _ _ (heap_alloc_new _ _)]; rfl
    have HB3 := Lib.hid (hbel.trans (hbb.mono hbel.size))
    have SE := Lib.hid (sentD_any _ v _ _ R3.out HCL.out (by rw [HSN.out]; decide))
    rw [HSN.out] at SE
    subst hv
    clear hbb ho hid2 hbel OF1 R3 HS
    have q0 : ((0 : Int) != 0) = false := rfl
    go_wp2_with fail
    generalize w2.alloc (.cells #[.string ⟨b1.toArray⟩, .string ⟨b1.toArray⟩, .int .i64 l.length, .slice av (copyS l.length).length cv] 27) = w3 at *
    refine SE.out.mono ?_
    rintro e w4 ⟨rfl, hb4⟩
    have E0 := (hb4.cell (World.block_lt_of_cell? w3 _ c0)).trans c0
    have E1 := (hb4.cell (World.block_lt_of_cell? w3 _ c1)).trans c1
    have HB4 := Lib.hid (HB3.out.trans (hb4.mono HB3.out.size))
    clear hb4 c0 c1 c3 SE
    have qb : (b1 == b1) = true := by simp
    go_wp2_with fail
    refine (awake_any _).mono ?_
    rintro e w7 ⟨rfl, hb7⟩
    go_wp2_with fail
    go_ret
    exact ⟨rfl, HB4.out.trans (hb7.mono HB4.out.size)⟩
end Go.Proofs.Ytfblkhmhelmjlaa
