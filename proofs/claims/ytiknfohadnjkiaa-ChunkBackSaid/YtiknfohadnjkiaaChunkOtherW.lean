/- ChunkOther: the walk (gen/chunklaws.py). -/
import Derived.Test.YtiknfohadnjkiaaBoxC
import Derived.Test.YtiknfohadnjkiaaChunkAwakeW
import Derived.Test.YtiknfohadnjkiaaChunkBoxM
import Derived.Test.YtiknfohadnjkiaaChunkMath
import Derived.Test.YtiknfohadnjkiaaFrame
import Derived.Test.YtiknfohadnjkiaaGen
import Derived.Test.YtiknfohadnjkiaaOwnL
import Derived.Test.YtiknfohadnjkiaaRefBoxW
import Derived.Test.YtiknfohadnjkiaaRowN
import Derived.Test.YtiknfohadnjkiaaRows
import Derived.BigQuiet
import Derived.Deep.QuietTactic
import Derived.Deep.RegionHeld3
import Derived.Lib.Hide
import Derived.Outline
import Derived.WalkKit
import Derived.WalkLawsBesides
import Derived.WalkSpells
set_option linter.unusedVariables false
namespace Go.Proofs.Ytiknfohadnjkiaa
open Go.RowKit

set_option maxRecDepth 100000 in
set_option maxHeartbeats 4000000 in
theorem chunkOther_walk_of (CU : CutC) {BX : World → Nat → (Nat → Prop) → BoxS → Prop} (BC : BoxC BX) (n at' : Int) (s t : List UInt8) (hn : I64 n) (ha : I64 at') (hs : s.length ≤ 140737488351232) (ht : t.length ≤ 140737488351232) (w : World) :
    Calls Try.prog 6 #[.int .i64 n, .int .i64 at', .string ⟨s.toArray⟩, .string ⟨t.toArray⟩] w fun e w' => e = .returned (.bool true) ∧ Below w.heap.size w w' := by
  have HB0 := Lib.hid (Below.refl w.heap.size w)
  have SS := Lib.hid (show (⟨s.toArray⟩ : ByteArray).size = s.length from rfl)
  have ST := Lib.hid (show (⟨t.toArray⟩ : ByteArray).size = t.length from rfl)
  obtain ⟨hn1, hn2⟩ := hn
  obtain ⟨ha1, ha2⟩ := ha
  go_enter Try.func6, Try.ntmps6
  by_cases b1 : n < 1
  · go_wp2_with fail
    refine (awake13_any CU _).mono ?_
    rintro e w9 ⟨rfl, hb9⟩
    have HB9 := Lib.hid (HB0.out.trans (hb9.mono HB0.out.size))
    clear hb9
    go_wp2_with fail
    go_ret
    exact ⟨rfl, HB9.out⟩
  · skip
    by_cases b2 : 60 < n
    · go_wp2_with fail
      refine (awake13_any CU _).mono ?_
      rintro e w9 ⟨rfl, hb9⟩
      have HB9 := Lib.hid (HB0.out.trans (hb9.mono HB0.out.size))
      clear hb9
      go_wp2_with fail
      go_ret
      exact ⟨rfl, HB9.out⟩
    · skip
      by_cases b3 : at' < 0
      · go_wp2_with fail
        refine (awake13_any CU _).mono ?_
        rintro e w9 ⟨rfl, hb9⟩
        have HB9 := Lib.hid (HB0.out.trans (hb9.mono HB0.out.size))
        clear hb9
        go_wp2_with fail
        go_ret
        exact ⟨rfl, HB9.out⟩
      · skip
        by_cases b4 : n ≤ at'
        · go_wp2_with fail
          refine (awake13_any CU _).mono ?_
          rintro e w9 ⟨rfl, hb9⟩
          have HB9 := Lib.hid (HB0.out.trans (hb9.mono HB0.out.size))
          clear hb9
          go_wp2_with fail
          go_ret
          exact ⟨rfl, HB9.out⟩
        · skip
          by_cases b5 : 300 < s.length
          · have jb5 : (300 : Int) < (s.length : Int) := by omega
            go_wp2_with fail
            refine (awake13_any CU _).mono ?_
            rintro e w9 ⟨rfl, hb9⟩
            have HB9 := Lib.hid (HB0.out.trans (hb9.mono HB0.out.size))
            clear hb9
            go_wp2_with fail
            go_ret
            exact ⟨rfl, HB9.out⟩
          · skip
            by_cases b6 : 300 < t.length
            · have jb6 : (300 : Int) < (t.length : Int) := by omega
              go_wp2_with fail
              refine (awake13_any CU _).mono ?_
              rintro e w9 ⟨rfl, hb9⟩
              have HB9 := Lib.hid (HB0.out.trans (hb9.mono HB0.out.size))
              clear hb9
              go_wp2_with fail
              go_ret
              exact ⟨rfl, HB9.out⟩
            · skip
              have j5 : ¬ (300 : Int) < (s.length : Int) := by omega
              have j6 : ¬ (300 : Int) < (t.length : Int) := by omega
              obtain ⟨m, hm⟩ : ∃ m : Nat, m = n.toNat := ⟨_, rfl⟩
              obtain ⟨a, ha⟩ : ∃ a : Nat, a = at'.toNat := ⟨_, rfl⟩
              have hnm : n = (m : Int) := by omega
              have haa : at' = (a : Int) := by omega
              subst hnm; subst haa
              have ham : a < m := by omega
              have hl0 : (List.replicate m (none : Option (List UInt8))).length = m := List.length_replicate
              have hg0 : (List.replicate m (none : Option (List UInt8)))[a]'(by omega) = none := by simp
              have PF := put_free (st := List.replicate m none) (p := ⟨(a : Int), (m : Int), s⟩) (i := a) (by omega) rfl (by rw [hl0]) hg0 (by rw [allB_none]; show 0 + s.length ≤ 524288; omega)
              have LF := leftB_set (st := List.replicate m none) (i := a) (by omega) hg0 s
              rw [leftB_none] at LF
              dsimp only at PF
              have hl1 : ((List.replicate m (none : Option (List UInt8))).set a (some s)).length = m := by rw [List.length_set, hl0]
              have hg1 : ((List.replicate m (none : Option (List UInt8))).set a (some s))[a]'(by omega) = some s := by simp
              have PS := put_same (st := (List.replicate m none).set a (some s)) (p := ⟨(a : Int), (m : Int), s⟩) (i := a) (by omega) rfl (by rw [hl1]) hg1
              have PO := fun (hne : s ≠ t) => put_other (st := (List.replicate m none).set a (some s)) (p := ⟨(a : Int), (m : Int), t⟩) (i := a) (by omega) rfl (by rw [hl1]) hg1 hne
              have NW := Lib.hid (BC.newOk (m : Int) w (by omega) (by omega))
              rw [Int.toNat_natCast] at NW
              clear hg0 hg1
              generalize (List.replicate m (none : Option (List UInt8))).set a (some s) = st1 at *
              generalize List.replicate m (none : Option (List UInt8)) = st0 at *
              have HPF := Lib.hid PF
              have HPS := Lib.hid PS
              have HPO := Lib.hid PO
              have HLF := Lib.hid LF
              clear PF PS PO LF hm ha
              have ok1 : PartOk ⟨(a : Int), (m : Int), s⟩ := ⟨⟨by show (-9223372036854775808 : Int) ≤ (a : Int); omega, by show (a : Int) ≤ 9223372036854775807; omega⟩, ⟨by show (-9223372036854775808 : Int) ≤ (m : Int); omega, by show (m : Int) ≤ 9223372036854775807; omega⟩, hs⟩
              have ok2 : PartOk ⟨(a : Int), (m : Int), t⟩ := ⟨ok1.a, ok1.o, ht⟩
              have HO1 := Lib.hid ok1
              have HO2 := Lib.hid ok2
              clear ok1 ok2
              go_wp2_with fail
              refine NW.out.mono ?_
              rintro e w1 ⟨b, N, rfl, hx1, hn1, hb1⟩
              have HX1 := Lib.hid hx1
              have HN1 := Lib.hid hn1
              have HB1 := Lib.hid hb1
              clear hx1 hn1 hb1 NW
              have P1 := Lib.hid (BC.put ⟨(a : Int), (m : Int), s⟩ HX1.out HO1.out)
              rw [HPF.out.1, HPF.out.2] at P1
              go_wp2_with fail
              refine P1.out.mono ?_
              rintro e w2 ⟨N2, rfl, hx2, hn2, hk2⟩
              have HX2 := Lib.hid hx2
              have HN2 := Lib.hid (fun i hi => (hn2 i hi).elim (fun h => HN1.out i h) (fun h => Nat.le_trans HB1.out.size h))
              have HB2 := Lib.hid (HB1.out.trans (hk2.below HB1.out.size (fun i hi => HN1.out i hi)))
              clear hx2 hn2 hk2 P1 HX1 HN1 HB1
              by_cases he : s = t
              · have e1 : (s != t) = false := by simp [he]
                have e2 : (s == t) = true := by simp [he]
                have P2 := Lib.hid (BC.put ⟨(a : Int), (m : Int), t⟩ HX2.out HO2.out)
                rw [← he, HPS.out.1, HPS.out.2] at P2
                rw [← he] at e1 e2 ⊢
                clear he
                go_wp2_with fail
                refine P2.out.mono ?_
                rintro e w3 ⟨N3, rfl, hx3, hn3, hk3⟩
                have HX3 := Lib.hid hx3
                have HN3 := Lib.hid (fun i hi => (hn3 i hi).elim (fun h => HN2.out i h) (fun h => Nat.le_trans HB2.out.size h))
                have HB3 := Lib.hid (HB2.out.trans (hk3.below HB2.out.size (fun i hi => HN2.out i hi)))
                clear hx3 hn3 hk3 P2 HX2 HN2 HB2
                have P3 := Lib.hid (BC.put ⟨(a : Int), (m : Int), s⟩ HX3.out HO1.out)
                rw [HPS.out.1, HPS.out.2] at P3
                go_wp2_with fail
                refine P3.out.mono ?_
                rintro e w4 ⟨N4, rfl, hx4, hn4, hk4⟩
                have HX4 := Lib.hid hx4
                have HB4 := Lib.hid (HB3.out.trans (hk4.below HB3.out.size (fun i hi => HN3.out i hi)))
                clear hx4 hn4 hk4 P3 HX3 HN3 HB3
                have LT := Lib.hid (BC.left HX4.out)
                have u1 : wrap64 ((m : Int) - 1) = (m : Int) - 1 := IntWalk.wrap64_in _ (by omega)
                have hlf : ((leftB st1 : Nat) : Int) = (m : Int) - 1 := by have := HLF.out; omega
                rw [hlf] at LT
                clear hlf
                go_wp2_with fail
                refine LT.out.mono ?_
                rintro e w5 ⟨rfl, hb5⟩
                have HB5 := Lib.hid (HB4.out.trans (hb5.mono HB4.out.size))
                clear hb5 LT HB4
                go_wp2_with fail
                refine (awake13_any CU _).mono ?_
                rintro e w9 ⟨rfl, hb9⟩
                have HB9 := Lib.hid (HB5.out.trans (hb9.mono HB5.out.size))
                clear hb9
                go_wp2_with fail
                go_ret
                exact ⟨rfl, HB9.out⟩
              · have e1 : (s != t) = true := by simp [he]
                have e2 : (s == t) = false := by simp [he]
                have P2 := Lib.hid (BC.put ⟨(a : Int), (m : Int), t⟩ HX2.out HO2.out)
                rw [(HPO.out he).1, (HPO.out he).2] at P2
                clear he
                go_wp2_with fail
                refine P2.out.mono ?_
                rintro e w3 ⟨N3, rfl, hx3, hn3, hk3⟩
                have HX3 := Lib.hid hx3
                have HN3 := Lib.hid (fun i hi => (hn3 i hi).elim (fun h => HN2.out i h) (fun h => Nat.le_trans HB2.out.size h))
                have HB3 := Lib.hid (HB2.out.trans (hk3.below HB2.out.size (fun i hi => HN2.out i hi)))
                clear hx3 hn3 hk3 P2 HX2 HN2 HB2
                have P3 := Lib.hid (BC.put ⟨(a : Int), (m : Int), s⟩ HX3.out HO1.out)
                rw [HPS.out.1, HPS.out.2] at P3
                go_wp2_with fail
                refine P3.out.mono ?_
                rintro e w4 ⟨N4, rfl, hx4, hn4, hk4⟩
                have HX4 := Lib.hid hx4
                have HB4 := Lib.hid (HB3.out.trans (hk4.below HB3.out.size (fun i hi => HN3.out i hi)))
                clear hx4 hn4 hk4 P3 HX3 HN3 HB3
                have LT := Lib.hid (BC.left HX4.out)
                have u1 : wrap64 ((m : Int) - 1) = (m : Int) - 1 := IntWalk.wrap64_in _ (by omega)
                have hlf : ((leftB st1 : Nat) : Int) = (m : Int) - 1 := by have := HLF.out; omega
                rw [hlf] at LT
                clear hlf
                go_wp2_with fail
                refine LT.out.mono ?_
                rintro e w5 ⟨rfl, hb5⟩
                have HB5 := Lib.hid (HB4.out.trans (hb5.mono HB4.out.size))
                clear hb5 LT HB4
                go_wp2_with fail
                refine (awake13_any CU _).mono ?_
                rintro e w9 ⟨rfl, hb9⟩
                have HB9 := Lib.hid (HB5.out.trans (hb9.mono HB5.out.size))
                clear hb9
                go_wp2_with fail
                go_ret
                exact ⟨rfl, HB9.out⟩
end Go.Proofs.Ytiknfohadnjkiaa
