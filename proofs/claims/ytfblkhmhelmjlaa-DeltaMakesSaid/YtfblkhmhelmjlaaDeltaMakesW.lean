/- The walk of the law DeltaMakes. -/
import Derived.Test.YtfblkhmhelmjlaaArgs3
import Derived.Test.YtfblkhmhelmjlaaRefX
import Derived.Test.YtfblkhmhelmjlaaTabX
import Derived.Test.YtfblkhmhelmjlaaBookW
import Derived.Test.YtfblkhmhelmjlaaBkX
import Derived.Test.YtfblkhmhelmjlaaDelX
import Derived.Test.YtfblkhmhelmjlaaFrame
import Derived.Test.YtfblkhmhelmjlaaGen
import Derived.Test.YtfblkhmhelmjlaaMarkMath
import Derived.Test.YtfblkhmhelmjlaaRollX
import Derived.Test.YtfblkhmhelmjlaaNewTabW
import Derived.Test.YtfblkhmhelmjlaaOfDW
import Derived.Test.YtfblkhmhelmjlaaOfIW
import Derived.Test.YtfblkhmhelmjlaaOwnL
import Derived.Test.YtfblkhmhelmjlaaProg
import Derived.Test.YtfblkhmhelmjlaaReadW
import Derived.Test.YtfblkhmhelmjlaaRightDW
import Derived.Test.YtfblkhmhelmjlaaRowKeep
import Derived.Test.YtfblkhmhelmjlaaRows
import Derived.Test.YtfblkhmhelmjlaaShelf
import Derived.Test.YtfblkhmhelmjlaaSigAt
import Derived.Test.YtfblkhmhelmjlaaSignMath
import Derived.Test.YtfblkhmhelmjlaaSortX
import Derived.Test.YtfblkhmhelmjlaaSortEW
import Derived.BigQuiet
import Derived.BigRegion
import Derived.Deep.CutBlock
import Derived.Deep.DeepCutAuto
import Derived.Deep.LoopGhost
import Derived.Deep.QuietTactic
import Derived.Deep.RegionHeld3
import Derived.Deep.RegionLaw
import Derived.IntWalk
import Derived.Laws.BitsAllLaws
import Derived.Laws.MakeOwn
import Derived.Laws.Rows
import Derived.Laws.Tables
import Derived.Lib.Hide
import Derived.Outline
import Derived.Sort.Walk0
import Derived.StillTailTactics
import Derived.WalkKit
import Derived.WalkLawsBesides
import Derived.WalkSpells
set_option linter.unusedVariables false
namespace Go.Proofs.Ytfblkhmhelmjlaa
open Go.RowKit

theorem ref_start (w : World) : AtR w.heap.size w.heap.size (w.alloc (.cells #[.bool false, .slice none 0 0] 35)) (.slice none 0 0, []) :=
  ⟨⟨heap_alloc_new _ _, OwnL.nil _ _ _ _, Nat.le_refl _⟩, by simp⟩
set_option maxRecDepth 100000 in
set_option maxHeartbeats 4000000 in
theorem deltaMakes_bad (l0 : Txt) (hl0 : l0.length ≤ 140737488351232) (s0 : Txt) (hs0 : s0.length ≤ 140737488351232) (z : Int) (hz : z < 16 ∨ 1024 < z) (w : World) :
    Calls Try.prog 3 #[.string ⟨l0.toArray⟩, .string ⟨s0.toArray⟩, .int .i64 z] w fun e w' => e = .returned (.bool true) ∧ Below w.heap.size w w' := by
  have CT := fun w' => Lib.hid (cutD_any l0 1500 w' (by decide) hl0)
  have CT2 := fun w' => Lib.hid (cutD_any s0 1500 w' (by decide) hs0)
  have hl : (l0.take 1500).length ≤ 1500 := List.length_take_le _ _
  have hs : (s0.take 1500).length ≤ 1500 := List.length_take_le _ _
  generalize l0.take 1500 = l at *
  generalize s0.take 1500 = s at *
  have OF := fun bp w' => Lib.hid (ofD_arg bp l s z w' hz (by omega))
  have RF := fun bp w' => Lib.hid (refOf_arg bp l s z w' hz)
  clear hz
  go_enter Try.func3, Try.ntmps3
  go_wp2_with fail
  refine (CT _).out.mono ?_
  rintro e w' ⟨rfl, rfl⟩
  go_wp2_with fail
  refine (CT2 _).out.mono ?_
  rintro e w' ⟨rfl, rfl⟩
  go_wp2_with fail
  refine (ideal_any _).mono ?_
  rintro e w1 ⟨pb, bm, rfl, hid1, hp, hbm, hb1⟩
  have HB1 := Lib.hid hb1; clear hb1 hid1 hp hbm
  go_wp2_with fail
  refine (OF _ _).out.mono ?_
  rintro e w2 ⟨rfl, hb2⟩
  have hbb := below_self_alloc w2 (delC [] [] 0 (.slice none 0 0))
  obtain ⟨c0, c1, c2, c3⟩ := delO_cells (heap_alloc_new w2 (delO [] [] 0 (.slice none 0 0)))
  have HB2 := Lib.hid ((HB1.out.trans (hb2.mono HB1.out.size)).trans (hbb.mono (Nat.le_trans HB1.out.size hb2.size)))
  clear hb2 hbb
  go_wp2_with fail
  generalize w2.alloc (.cells #[.string { data := #[] }, .string { data := #[] }, .int .i64 0, .slice none 0 0] 27) = w3 at *
  have hb4 := below_self_alloc w3 (.cells #[.bool false, .slice none 0 0] 35)
  have E0 := (hb4.cell (World.block_lt_of_cell? w3 _ c0)).trans c0
  have E1 := (hb4.cell (World.block_lt_of_cell? w3 _ c1)).trans c1
  have E2 := (hb4.cell (World.block_lt_of_cell? w3 _ c2)).trans c2
  have E3 := (hb4.cell (World.block_lt_of_cell? w3 _ c3)).trans c3
  have HB4 := Lib.hid (HB2.out.trans (hb4.mono HB2.out.size))
  generalize w3.alloc (.cells #[.bool false, .slice none 0 0] 35) = w4 at *
  refine (RF _ _).out.mono ?_
  rintro e w5 ⟨rfl, hb5⟩
  have hbb := below_self_alloc w5 (delC [] [] 0 (.slice none 0 0))
  have hb6 := hb5.trans (hbb.mono hb5.size)
  have G0 := (hb6.cell (World.block_lt_of_cell? w4 _ E0)).trans E0
  have G1 := (hb6.cell (World.block_lt_of_cell? w4 _ E1)).trans E1
  have G2 := (hb6.cell (World.block_lt_of_cell? w4 _ E2)).trans E2
  have G3 := (hb6.cell (World.block_lt_of_cell? w4 _ E3)).trans E3
  obtain ⟨k0, k1, k2, k3⟩ := delO_cells (heap_alloc_new w5 (delO [] [] 0 (.slice none 0 0)))
  have HB6 := Lib.hid (HB4.out.trans (hb6.mono HB4.out.size))
  have EQ := Lib.hid (fun w' => stepsEq_any (fun _ => True) (fun _ => True) (.slice none 0 0) (.slice none 0 0) [] w' (RowS.nil _ _ _ _) (RowS.nil _ _ _ _) (by simp))
  clear hbb hb6 hb5 hb4 c0 c1 c2 c3 E0 E1 E2 E3
  have q1 : ((1 : Int) != 0) = true := rfl
  have q2 : ((0 : Int) != 0) = false := rfl
  have q3 : ((1 : Int) != 1) = false := rfl
  go_wp2_with fail
  generalize w5.alloc (.cells #[.string { data := #[] }, .string { data := #[] }, .int .i64 0, .slice none 0 0] 27) = w6 at *
  refine (EQ.out _).mono ?_
  rintro e w7 ⟨rfl, hb7⟩
  have F0 := (hb7.cell (World.block_lt_of_cell? w6 _ G0)).trans G0
  have F1 := (hb7.cell (World.block_lt_of_cell? w6 _ G1)).trans G1
  have F2 := (hb7.cell (World.block_lt_of_cell? w6 _ G2)).trans G2
  have L2 := (hb7.cell (World.block_lt_of_cell? w6 _ k2)).trans k2
  have HB7 := Lib.hid (HB6.out.trans (hb7.mono HB6.out.size))
  clear hb7 G0 G1 G2 G3 k0 k1 k2 k3
  go_wp2_with fail
  refine (awake_any _).mono ?_
  rintro e w8 ⟨rfl, hb8⟩
  go_wp2_with fail
  go_ret
  exact ⟨rfl, HB7.out.trans (hb8.mono HB7.out.size)⟩
set_option maxRecDepth 100000 in
set_option maxHeartbeats 4000000 in
theorem deltaMakes_good (l0 : Txt) (hl0 : l0.length ≤ 140737488351232) (s0 : Txt) (hs0 : s0.length ≤ 140737488351232) (B : Nat) (hb16 : 16 ≤ B) (hb24 : B ≤ 1024) (w : World) :
    Calls Try.prog 3 #[.string ⟨l0.toArray⟩, .string ⟨s0.toArray⟩, .int .i64 B] w fun e w' => e = .returned (.bool true) ∧ Below w.heap.size w w' := by
  have CT := fun w' => Lib.hid (cutD_any l0 1500 w' (by decide) hl0)
  have CT2 := fun w' => Lib.hid (cutD_any s0 1500 w' (by decide) hs0)
  have hl : (l0.take 1500).length ≤ 1500 := List.length_take_le _ _
  have hs : (s0.take 1500).length ≤ 1500 := List.length_take_le _ _
  generalize l0.take 1500 = l at *
  generalize s0.take 1500 = s at *
  have OF := Lib.hid (fun pb bm w' h1 h2 h3 h4 => ofI_ok pb bm B l s w' w (by omega) (by omega) (by omega) (by omega) h1 h2 h3 h4)
  have RF := Lib.hid (fun base q w' w3' h1 h2 h3 => refOf_ok base q B l s w' w3' (by omega) (by omega) (by omega) (by omega) h1 h2 h3)
  have HBK := Lib.hid (stepsI_back (B := B) (by omega) l s (by omega))
  go_enter Try.func3, Try.ntmps3
  go_wp2_with fail
  refine (CT _).out.mono ?_
  rintro e w' ⟨rfl, rfl⟩
  go_wp2_with fail
  refine (CT2 _).out.mono ?_
  rintro e w' ⟨rfl, rfl⟩
  go_wp2_with fail
  refine (ideal_any _).mono ?_
  rintro e w1 ⟨pb, bm, rfl, hid1, hp, hbm, hb1⟩
  have OF1 := Lib.hid (OF.out pb bm w1 hid1 hb1 hp hbm)
  clear OF hid1 hp hbm hb1
  go_wp2_with fail
  refine OF1.out.mono ?_
  rintro e w2 ⟨v, S, b1, b2, rfl, ho, hid2, hbel, hS, h1, h2, his1, his2, _⟩
  have hlen := HBK.out.len
  generalize stepsI B l s = st at *
  have hbb := below_self_alloc w2 (delC b1 b2 s.length v)
  have R3 := Lib.hid (ho.row.keep hbb)
  have HI3 := Lib.hid (hid2.new hbb)
  obtain ⟨c0, c1, c2, c3⟩ := delO_cells (heap_alloc_new w2 (delO b1 b2 s.length v))
  have HB3 := Lib.hid (hbel.trans (hbb.mono hbel.size))
  have HIS1 := Lib.hid (show isS S l b1 = true by rw [his1]; simp)
  have HIS2 := Lib.hid (show isS S s b2 = true by rw [his2]; simp)
  obtain ⟨av, cv, hv⟩ := R3.out.slice
  clear hbb ho hid2 hbel OF1 his1 his2 HBK h1 h2
  subst hv
  have q0 : ((0 : Int) != 0) = false := rfl
  have qs : ((s.length : Int) != (s.length : Int)) = false := by simp
  go_wp2_with fail
  have HSZ := Lib.hid (show (w2.alloc (.cells #[.string ⟨b1.toArray⟩, .string ⟨b2.toArray⟩, .int .i64 s.length, .slice av st.length cv] 27)).heap.size = w2.heap.size + 1 by simp)
  generalize w2.alloc (.cells #[.string ⟨b1.toArray⟩, .string ⟨b2.toArray⟩, .int .i64 s.length, .slice av st.length cv] 27) = w3 at *
  rw [← HSZ.out]
  have hb4 := below_self_alloc w3 (.cells #[.bool false, .slice none 0 0] 35)
  have E0 := (hb4.cell (World.block_lt_of_cell? w3 _ c0)).trans c0
  have E1 := (hb4.cell (World.block_lt_of_cell? w3 _ c1)).trans c1
  have E2 := (hb4.cell (World.block_lt_of_cell? w3 _ c2)).trans c2
  have E3 := (hb4.cell (World.block_lt_of_cell? w3 _ c3)).trans c3
  have HB4 := Lib.hid (HB3.out.trans (hb4.mono HB3.out.size))
  have RF4 := Lib.hid (RF.out w3.heap.size w3.heap.size _ w3 (ref_start w3) hb4 (Nat.le_refl _))
  have R4 := Lib.hid (R3.out.keep hb4)
  have HI4 := Lib.hid (HI3.out.new hb4)
  clear hb4 RF
  generalize w3.alloc (.cells #[.bool false, .slice none 0 0] 35) = w4 at *
  refine RF4.out.mono ?_
  rintro e w5 ⟨v5, d1, d2, rfl, ho5, hb5W⟩
  have hbb := below_self_alloc w5 (delC d1 d2 s.length v5)
  have R5a := (ho5.row.keep hbb)
  have hb6 := hb5W.trans (hbb.mono hb5W.size)
  have G0 := (hb6.cell (World.block_lt_of_cell? w3 _ c0)).trans c0
  have G1 := (hb6.cell (World.block_lt_of_cell? w3 _ c1)).trans c1
  have G2 := (hb6.cell (World.block_lt_of_cell? w3 _ c2)).trans c2
  have G3 := (hb6.cell (World.block_lt_of_cell? w3 _ c3)).trans c3
  obtain ⟨k0, k1, k2, k3⟩ := delO_cells (heap_alloc_new w5 (delO d1 d2 s.length v5))
  have HB6 := Lib.hid (HB3.out.trans (hb6.mono HB3.out.size))
  have HI6 := Lib.hid (HI3.out.new hb6)
  obtain ⟨av5, cv5, hv5⟩ := R5a.slice
  have EQ := Lib.hid (stepsEq_any _ _ (.slice av st.length cv) v5 st _ (R3.out.keep hb6) R5a (by omega))
  subst hv5
  clear hbb hb6 hb5W c0 c1 c2 c3 E0 E1 E2 E3 R5a ho5 HI4 R4 HB4 RF4
  go_wp2_with fail
  generalize w5.alloc (.cells #[.string ⟨d1.toArray⟩, .string ⟨d2.toArray⟩, .int .i64 s.length, .slice av5 st.length cv5] 27) = w6 at *
  refine EQ.out.mono ?_
  rintro e w7 ⟨rfl, hb7⟩
  have F0 := (hb7.cell (World.block_lt_of_cell? w6 _ G0)).trans G0
  have F1 := (hb7.cell (World.block_lt_of_cell? w6 _ G1)).trans G1
  have F2 := (hb7.cell (World.block_lt_of_cell? w6 _ G2)).trans G2
  have L2 := (hb7.cell (World.block_lt_of_cell? w6 _ k2)).trans k2
  have HB7 := Lib.hid (HB6.out.trans (hb7.mono HB6.out.size))
  have HI7 := Lib.hid (HI6.out.new hb7)
  have IS1 := Lib.hid (is_ideal w7 pb bm S l b1 HI7.out (by omega) (by omega))
  rw [HIS1.out] at IS1
  clear hb7 G0 G1 G2 G3 k0 k1 k2 k3 EQ
  have q3 : ((0 : Int) != 0) = false := rfl
  go_wp2_with fail
  refine IS1.out.mono ?_
  rintro e w8 ⟨rfl, hb8⟩
  have M1 := (hb8.cell (World.block_lt_of_cell? w7 _ F1)).trans F1
  have HB8 := Lib.hid (HB7.out.trans (hb8.mono HB7.out.size))
  have IS2 := Lib.hid (is_ideal w8 pb bm S s b2 (HI7.out.new hb8) (by omega) (by omega))
  rw [HIS2.out] at IS2
  clear hb8 F0 F1 F2 L2 IS1
  go_wp2_with fail
  refine IS2.out.mono ?_
  rintro e w9 ⟨rfl, hb9⟩
  have HB9 := Lib.hid (HB8.out.trans (hb9.mono HB8.out.size))
  clear hb9 IS2
  go_wp2_with fail
  refine (awake_any _).mono ?_
  rintro e w10 ⟨rfl, hb10⟩
  go_wp2_with fail
  go_ret
  exact ⟨rfl, HB9.out.trans (hb10.mono HB9.out.size)⟩
set_option maxRecDepth 100000 in
theorem deltaMakes_walk (l0 : Txt) (hl0 : l0.length ≤ 140737488351232) (s0 : Txt) (hs0 : s0.length ≤ 140737488351232) (z : Int) (hz1 : -9223372036854775808 ≤ z) (hz2 : z ≤ 9223372036854775807) (w : World) :
    Calls Try.prog 3 #[.string ⟨l0.toArray⟩, .string ⟨s0.toArray⟩, .int .i64 z] w fun e w' => e = .returned (.bool true) ∧ Below w.heap.size w w' := by
  by_cases hz : z < 16 ∨ 1024 < z
  · exact deltaMakes_bad l0 hl0 s0 hs0 z hz w
  · obtain ⟨B, rfl⟩ : ∃ B : Nat, z = (B : Int) := ⟨z.toNat, by omega⟩
    exact deltaMakes_good l0 hl0 s0 hs0 B (by omega) (by omega) w
end Go.Proofs.Ytfblkhmhelmjlaa
