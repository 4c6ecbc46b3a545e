/- ChunkLong: the walk (gen/chunklaws.py). -/
import Derived.Test.YtiknfohadnjkiaaBoxC
import Derived.Test.YtiknfohadnjkiaaChunkAwakeW
import Derived.Test.YtiknfohadnjkiaaChunkBoxM
import Derived.Test.YtiknfohadnjkiaaChunkManyW
import Derived.Test.YtiknfohadnjkiaaChunkMath
import Derived.Test.YtiknfohadnjkiaaFrame
import Derived.Test.YtiknfohadnjkiaaGen
import Derived.Test.YtiknfohadnjkiaaMake
import Derived.Test.YtiknfohadnjkiaaOwnL
import Derived.Test.YtiknfohadnjkiaaRefBoxW
import Derived.Test.YtiknfohadnjkiaaRowN
import Derived.Test.YtiknfohadnjkiaaRows
import Derived.BigQuiet
import Derived.Deep.QuietTactic
import Derived.Deep.RegionHeld3
import Derived.Lib.Hide
import Derived.Outline
import Derived.WalkKit
import Derived.WalkLawsBesides
import Derived.WalkSpells
set_option linter.unusedVariables false
namespace Go.Proofs.Ytiknfohadnjkiaa
open Go.RowKit

set_option maxRecDepth 100000 in
set_option maxHeartbeats 4000000 in
theorem chunkLong_walk_of (CU : CutC) {BX : World → Nat → (Nat → Prop) → BoxS → Prop} (BC : BoxC BX) (more : Int) (hm : I64 more) (w : World) :
    Calls Try.prog 8 #[.int .i64 more] w fun e w' => e = .returned (.bool true) ∧ Below w.heap.size w w' := by
  have HB0 := Lib.hid (Below.refl w.heap.size w)
  go_enter Try.func8, Try.ntmps8
  by_cases h1 : more < 0
  · clear hm
    go_wp2_with fail
    refine (awake13_any CU _).mono ?_
    rintro e w9 ⟨rfl, hb9⟩
    have HB9 := Lib.hid (HB0.out.trans (hb9.mono HB0.out.size))
    clear hb9
    go_wp2_with fail
    go_ret
    exact ⟨rfl, HB9.out⟩
  · by_cases h2 : 2 < more
    · clear hm
      go_wp2_with fail
      refine (awake13_any CU _).mono ?_
      rintro e w9 ⟨rfl, hb9⟩
      have HB9 := Lib.hid (HB0.out.trans (hb9.mono HB0.out.size))
      clear hb9
      go_wp2_with fail
      go_ret
      exact ⟨rfl, HB9.out⟩
    · clear hm
      obtain ⟨Z, hZ⟩ : ∃ Z, Z = List.replicate 524288 (0 : UInt8) := ⟨_, rfl⟩
      have hZl : Z.length = 524288 := by rw [hZ, List.length_replicate]
      obtain ⟨r, hr0⟩ : ∃ r : Nat, r = more.toNat := ⟨_, rfl⟩
      have hmr : more = (r : Int) := by omega
      subst hmr
      obtain ⟨Y, hY⟩ : ∃ Y, Y = List.replicate r (0 : UInt8) := ⟨_, rfl⟩
      have hYl : Y.length = r := by rw [hY, List.length_replicate]
      obtain ⟨X, hX⟩ : ∃ X, X = List.replicate (524288 + r) (0 : UInt8) := ⟨_, rfl⟩
      have hXl : X.length = 524288 + r := by rw [hX, List.length_replicate]
      have PA := put_free (st := [none, none]) (p := ⟨1, 2, Z⟩) (i := 1) (by simp) rfl rfl rfl (by show 0 + Z.length ≤ 524288; omega)
      have hall1 : (allB [none, some Z]).length = 524288 := by
        show (([none, some Z] : BoxS).map (fun o => o.getD [])).flatten.length = 524288
        simp [hZl]
      have OKZ : PartOk ⟨1, 2, Z⟩ := ⟨⟨by show (-9223372036854775808 : Int) ≤ 1; decide, by show (1 : Int) ≤ 9223372036854775807; decide⟩, ⟨by show (-9223372036854775808 : Int) ≤ 2; decide, by show (2 : Int) ≤ 9223372036854775807; decide⟩, by show Z.length ≤ _; omega⟩
      have OKY : PartOk ⟨0, 2, Y⟩ := ⟨⟨by show (-9223372036854775808 : Int) ≤ 0; decide, by show (0 : Int) ≤ 9223372036854775807; decide⟩, ⟨by show (-9223372036854775808 : Int) ≤ 2; decide, by show (2 : Int) ≤ 9223372036854775807; decide⟩, by show Y.length ≤ _; omega⟩
      have HPA := Lib.hid (show putE [none, none] ⟨1, 2, Z⟩ = 0 ∧ putB' [none, none] ⟨1, 2, Z⟩ = [none, some Z] from PA)
      have HOZ := Lib.hid OKZ
      have HOY := Lib.hid OKY
      have NW := Lib.hid (BC.newOk 2 w (by decide) (by decide))
      have HST := Lib.hid (show List.replicate (2 : Int).toNat (none : Option (List UInt8)) = [none, none] from rfl)
      rw [HST.out] at NW
      have HC10 := Lib.hid (cutL_1024 X.length X (Nat.le_refl _))
      have HLZ := Lib.hid hZ
      have HLY := Lib.hid hY
      have HLX := Lib.hid hX
      clear PA OKZ OKY HST hr0 hZ hY hX
      have h1' : ¬ (r : Int) < 0 := by omega
      have h2' : ¬ (2 : Int) < (r : Int) := by omega
      go_wp2_with fail
      refine NW.out.mono ?_
      rintro e w1 ⟨b, N, rfl, hx1, hn1, hb1⟩
      have HX1 := Lib.hid hx1
      have HN1 := Lib.hid hn1
      have HB1 := Lib.hid hb1
      clear hx1 hn1 hb1 NW
      obtain ⟨v2, w2, hr2, ho2, hb2⟩ := make_zeros (P := Try.prog) w1 52 5 Try.underlying52 info_u8c w1.heap.size 524288 524288 (by omega) (by omega) (Nat.le_refl _)
      have c2 := own_string w2 w1.heap.size 52 9 5 v2 _ Try.underlying52 Try.underlying5 Try.underlying9 ho2
      rw [← HLZ.out] at c2
      have HW2 := Lib.hid hb2
      clear ho2 hb2
      have HX2 := Lib.hid (BC.kept HX1.out (Kept.new HW2.out (fun _ => False)) (fun _ _ h => h))
      have HB2 := Lib.hid (HB1.out.trans (HW2.out.mono HB1.out.size))
      have P1 := Lib.hid (BC.put ⟨1, 2, Z⟩ HX2.out HOZ.out)
      rw [HPA.out.1, HPA.out.2] at P1
      clear HX1 HB1 HW2 HPA
      go_wp2_with fail
      refine P1.out.mono ?_
      rintro e w3 ⟨N3, rfl, hx3, hn3, hk3⟩
      have HX3 := Lib.hid hx3
      have HN3 := Lib.hid (fun i hi => (hn3 i hi).elim (fun h => HN1.out i h) (fun h => Nat.le_trans HB2.out.size h))
      have HB3 := Lib.hid (HB2.out.trans (hk3.below HB2.out.size (fun i hi => HN1.out i hi)))
      clear hx3 hn3 hk3 P1 HX2 HN1 HB2 hr2 c2
      obtain ⟨v4, w4, hr4, ho4, hb4⟩ := make_zeros (P := Try.prog) w3 52 5 Try.underlying52 info_u8c w3.heap.size r (r : Int) rfl (by omega) (Nat.le_refl _)
      have c4 := own_string w4 w3.heap.size 52 9 5 v4 _ Try.underlying52 Try.underlying5 Try.underlying9 ho4
      rw [← HLY.out] at c4
      have HW4 := Lib.hid hb4
      clear ho4 hb4
      have HX4 := Lib.hid (BC.kept HX3.out (Kept.new HW4.out (fun _ => False)) (fun _ _ h => h))
      have HB4 := Lib.hid (HB3.out.trans (HW4.out.mono HB3.out.size))
      clear HX3 HB3 HW4
      rcases (show r = 0 ∨ 0 < r by omega) with h3 | h3
      · have PB := put_free (st := [none, some Z]) (p := ⟨0, 2, Y⟩) (i := 0) (by simp) rfl rfl rfl (by rw [hall1]; show 524288 + Y.length ≤ 524288; omega)
        have HPB := Lib.hid (show putE [none, some Z] ⟨0, 2, Y⟩ = 0 ∧ putB' [none, some Z] ⟨0, 2, Y⟩ = [some Y, some Z] from PB)
        have P2 := Lib.hid (BC.put ⟨0, 2, Y⟩ HX4.out HOY.out)
        rw [HPB.out.1, HPB.out.2] at P2
        have HCE := Lib.hid (show cutE X 1024 = 0 by
          unfold cutE
          rw [if_neg (by decide), if_neg (by omega), if_neg]
          have := HC10.out
          show ¬ 4096 < (cutL 1024 X).length
          omega)
        have HQ0 := Lib.hid (show ((r : Int) == 0) = true by simp [h3])
        have HQ1 := Lib.hid (show (r == 0) = true by simp [h3])
        have u1 : wrap64 (524288 + (r : Int)) = 524288 + (r : Int) := IntWalk.wrap64_in _ (by omega)
        clear PB HC10 h3
        go_wp2_with fail
        refine P2.out.mono ?_
        rintro e w5 ⟨N5, rfl, hx5, hn5, hk5⟩
        have HX5 := Lib.hid hx5
        have HB5 := Lib.hid (HB4.out.trans (hk5.below HB4.out.size (fun i hi => HN3.out i hi)))
        clear hx5 hn5 hk5 P2 HX4 HN3 HB4 hr4 c4
        obtain ⟨v6, w6, hr6, ho6, hb6⟩ := make_zeros (P := Try.prog) w5 52 5 Try.underlying52 info_u8c w5.heap.size (524288 + r) (524288 + (r : Int)) (by omega) (by omega) (Nat.le_refl _)
        have c6 := own_string w6 w5.heap.size 52 9 5 v6 _ Try.underlying52 Try.underlying5 Try.underlying9 ho6
        rw [← HLX.out] at c6
        have HW6 := Lib.hid hb6
        clear ho6 hb6
        have HX6 := Lib.hid (BC.kept HX5.out (Kept.new HW6.out (fun _ => False)) (fun _ _ h => h))
        have HB6 := Lib.hid (HB5.out.trans (HW6.out.mono HB5.out.size))
        have C1 := Lib.hid (CU X 1024 w6 (by omega) ⟨by decide, by decide⟩)
        rw [HCE.out] at C1
        clear HX5 HB5 HW6 HCE
        go_wp2_with fail
        refine C1.out.mono ?_
        rintro e w7 ⟨v7, rfl, ho7, hb7⟩
        obtain ⟨a7, c7, hv7, _⟩ := (OwnN.row encPt_ok ho7).slice
        subst hv7
        have HX7 := Lib.hid (BC.kept HX6.out (Kept.new hb7 (fun _ => False)) (fun _ _ h => h))
        have HB7 := Lib.hid (HB6.out.trans (hb7.mono HB6.out.size))
        clear ho7 hb7 C1 HX6 HB6 hr6 c6
        have LT := Lib.hid (BC.left HX7.out)
        rw [show leftB [some Y, some Z] = 0 from rfl] at LT
        have q0 := HQ0.out
        have q1 := HQ1.out
        go_wp2_with fail
        refine LT.out.mono ?_
        rintro e w8 ⟨rfl, hb8⟩
        have HB8 := Lib.hid (HB7.out.trans (hb8.mono HB7.out.size))
        clear hb8 LT HB7
        go_wp2_with fail
        refine (awake13_any CU _).mono ?_
        rintro e w9 ⟨rfl, hb9⟩
        have HB9 := Lib.hid (HB8.out.trans (hb9.mono HB8.out.size))
        clear hb9
        go_wp2_with fail
        go_ret
        exact ⟨rfl, HB9.out⟩
      · have HPB := Lib.hid (show putE [none, some Z] ⟨0, 2, Y⟩ = 4 ∧ putB' [none, some Z] ⟨0, 2, Y⟩ = [none, some Z] from by
          have e := putE_none (st := [none, some Z]) (p := ⟨0, 2, Y⟩) (i := 0) (by simp) rfl rfl rfl
          rw [hall1, if_pos (by show 524288 < 524288 + Y.length; omega)] at e
          refine ⟨e, ?_⟩
          unfold putB'
          rw [if_pos (by rw [e]; decide)])
        have P2 := Lib.hid (BC.put ⟨0, 2, Y⟩ HX4.out HOY.out)
        rw [HPB.out.1, HPB.out.2] at P2
        have HCE := Lib.hid (show cutE X 1024 = 4 by
          unfold cutE
          rw [if_neg (by decide), if_pos (by omega)])
        have HQ0 := Lib.hid (show ((r : Int) == 0) = false by simp; omega)
        have HQ1 := Lib.hid (show (r == 0) = false by simp; omega)
        have u1 : wrap64 (524288 + (r : Int)) = 524288 + (r : Int) := IntWalk.wrap64_in _ (by omega)
        clear HC10 h3
        go_wp2_with fail
        refine P2.out.mono ?_
        rintro e w5 ⟨N5, rfl, hx5, hn5, hk5⟩
        have HX5 := Lib.hid hx5
        have HB5 := Lib.hid (HB4.out.trans (hk5.below HB4.out.size (fun i hi => HN3.out i hi)))
        clear hx5 hn5 hk5 P2 HX4 HN3 HB4 hr4 c4
        obtain ⟨v6, w6, hr6, ho6, hb6⟩ := make_zeros (P := Try.prog) w5 52 5 Try.underlying52 info_u8c w5.heap.size (524288 + r) (524288 + (r : Int)) (by omega) (by omega) (Nat.le_refl _)
        have c6 := own_string w6 w5.heap.size 52 9 5 v6 _ Try.underlying52 Try.underlying5 Try.underlying9 ho6
        rw [← HLX.out] at c6
        have HW6 := Lib.hid hb6
        clear ho6 hb6
        have HX6 := Lib.hid (BC.kept HX5.out (Kept.new HW6.out (fun _ => False)) (fun _ _ h => h))
        have HB6 := Lib.hid (HB5.out.trans (HW6.out.mono HB5.out.size))
        have C1 := Lib.hid (CU X 1024 w6 (by omega) ⟨by decide, by decide⟩)
        rw [HCE.out] at C1
        clear HX5 HB5 HW6 HCE
        go_wp2_with fail
        refine C1.out.mono ?_
        rintro e w7 ⟨v7, rfl, ho7, hb7⟩
        obtain ⟨a7, c7, hv7, _⟩ := (OwnN.row encPt_ok ho7).slice
        subst hv7
        have HX7 := Lib.hid (BC.kept HX6.out (Kept.new hb7 (fun _ => False)) (fun _ _ h => h))
        have HB7 := Lib.hid (HB6.out.trans (hb7.mono HB6.out.size))
        clear ho7 hb7 C1 HX6 HB6 hr6 c6
        have LT := Lib.hid (BC.left HX7.out)
        rw [show leftB [none, some Z] = 1 from rfl] at LT
        have q0 := HQ0.out
        have q1 := HQ1.out
        go_wp2_with fail
        refine LT.out.mono ?_
        rintro e w8 ⟨rfl, hb8⟩
        have HB8 := Lib.hid (HB7.out.trans (hb8.mono HB7.out.size))
        clear hb8 LT HB7
        go_wp2_with fail
        refine (awake13_any CU _).mono ?_
        rintro e w9 ⟨rfl, hb9⟩
        have HB9 := Lib.hid (HB8.out.trans (hb9.mono HB8.out.size))
        clear hb9
        go_wp2_with fail
        go_ret
        exact ⟨rfl, HB9.out⟩
end Go.Proofs.Ytiknfohadnjkiaa
