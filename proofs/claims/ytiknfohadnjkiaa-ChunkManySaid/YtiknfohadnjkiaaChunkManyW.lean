/- ChunkMany: the walk (gen/chunklaws.py). -/
import Derived.Test.YtiknfohadnjkiaaBoxC
import Derived.Test.YtiknfohadnjkiaaChunkAwakeW
import Derived.Test.YtiknfohadnjkiaaChunkMath
import Derived.Test.YtiknfohadnjkiaaFrame
import Derived.Test.YtiknfohadnjkiaaGen
import Derived.Test.YtiknfohadnjkiaaMake
import Derived.Test.YtiknfohadnjkiaaOwnL
import Derived.Test.YtiknfohadnjkiaaRefBoxW
import Derived.Test.YtiknfohadnjkiaaRowN
import Derived.Test.YtiknfohadnjkiaaRows
import Derived.BigQuiet
import Derived.Deep.QuietTactic
import Derived.Deep.RegionHeld3
import Derived.Lib.Hide
import Derived.Outline
import Derived.WalkKit
import Derived.WalkLawsBesides
import Derived.WalkSpells
set_option linter.unusedVariables false
namespace Go.Proofs.Ytiknfohadnjkiaa
open Go.RowKit

theorem info_u8c : (Try.prog.info? 5).map (fun i => (i.zero, i.size, i.bytes)) = some (some (.int .u8 0), 1, 1) := by kernel_rfl
theorem cutL_ones : ∀ (k : Nat) (s : List UInt8), s.length = k + 1 → (cutL 1 s).length = k + 1
  | 0, s, h => by
    rw [cutL_step (by decide), if_neg (by omega)]
    rfl
  | k + 1, s, h => by
    rw [cutL_step (by decide), if_pos (by omega), List.length_cons, cutL_ones k (s.drop 1) (by rw [List.length_drop]; omega)]
set_option maxRecDepth 100000 in
set_option maxHeartbeats 4000000 in
theorem chunkMany_walk_of (CU : CutC) {BX : World → Nat → (Nat → Prop) → BoxS → Prop} (BC : BoxC BX) (more : Int) (hm : I64 more) (w : World) :
    Calls Try.prog 7 #[.int .i64 more] w fun e w' => e = .returned (.bool true) ∧ Below w.heap.size w w' := by
  have HB0 := Lib.hid (Below.refl w.heap.size w)
  go_enter Try.func7, Try.ntmps7
  by_cases h1 : more < 0
  · clear hm
    go_wp2_with fail
    refine (awake13_any CU _).mono ?_
    rintro e w9 ⟨rfl, hb9⟩
    have HB9 := Lib.hid (HB0.out.trans (hb9.mono HB0.out.size))
    clear hb9
    go_wp2_with fail
    go_ret
    exact ⟨rfl, HB9.out⟩
  · by_cases h2 : 2 < more
    · clear hm
      go_wp2_with fail
      refine (awake13_any CU _).mono ?_
      rintro e w9 ⟨rfl, hb9⟩
      have HB9 := Lib.hid (HB0.out.trans (hb9.mono HB0.out.size))
      clear hb9
      go_wp2_with fail
      go_ret
      exact ⟨rfl, HB9.out⟩
    · obtain ⟨n, hn⟩ : ∃ n : Nat, n = (4096 + more).toNat := ⟨_, rfl⟩
      have hN : 4096 + more = (n : Int) := by omega
      have u1 : wrap64 (4096 + more) = 4096 + more := IntWalk.wrap64_in _ (by omega)
      rcases (show more = 0 ∨ 0 < more by omega) with h3 | h3
      · have hn4 : n = 4096 := by omega
        obtain ⟨v1, w1, hr, ho1, hb1⟩ := make_zeros (P := Try.prog) w 52 5 Try.underlying52 info_u8c w.heap.size n 4096 (by omega) (by omega) (Nat.le_refl _)
        have c1 := own_string w1 w.heap.size 52 9 5 v1 _ Try.underlying52 Try.underlying5 Try.underlying9 ho1
        have hlen : (List.replicate n (0 : UInt8)).length = n := List.length_replicate
        generalize List.replicate n (0 : UInt8) = Z at *
        have HCL := Lib.hid (cutL_ones (n - 1) Z (by omega))
        have HB1 := Lib.hid hb1
        clear ho1 hb1
        have C1 := Lib.hid (CU Z 1 w1 (by omega) ⟨by decide, by decide⟩)
        have HE := Lib.hid (show cutE Z 1 = if 4096 < n then 7 else 0 by
          unfold cutE
          rw [if_neg (by decide), if_neg (by omega)]
          have : (cutL (1 : Int).toNat Z).length = n := by have := HCL.out; show (cutL 1 Z).length = n; omega
          rw [this])
        have HP := Lib.hid (show (cutP Z 1).length = if 4096 < n then 0 else n by
          unfold cutP
          rw [HE.out]
          by_cases c : 4096 < n
          · rw [if_pos c, if_pos (by decide), if_pos c]; rfl
          · rw [if_neg c, if_neg (by simp), if_neg c, partsL_len]
            have := HCL.out
            show (cutL 1 Z).length = n
            omega)
        generalize cutP Z 1 = L at *
        clear hn hN
        have HL := Lib.hid (HP.out.trans (if_neg (by omega)))
        have HE0 := Lib.hid (HE.out.trans (if_neg (by omega)))
        rw [HE0.out] at C1
        subst h3
        have NW := Lib.hid (fun X => BC.newOk 4096 X (by decide) (by decide))
        clear HCL HE HP
        go_wp2_with fail
        refine C1.out.mono ?_
        rintro e w2 ⟨v2, rfl, ho2, hb2⟩
        obtain ⟨a2, c2, hv2, _⟩ := (OwnN.row encPt_ok ho2).slice
        rw [HL.out, hn4] at hv2
        subst hv2
        have HB2 := Lib.hid (HB1.out.trans (hb2.mono HB1.out.size))
        clear ho2 hb2 C1 HB1
        go_wp2_with fail
        refine (NW.out _).mono ?_
        rintro e w3 ⟨b, N, rfl, hx, hN', hb3⟩
        have HB3 := Lib.hid (HB2.out.trans (hb3.mono HB2.out.size))
        clear hx hN' hb3 NW HB2
        go_wp2_with fail
        refine (awake13_any CU _).mono ?_
        rintro e w9 ⟨rfl, hb9⟩
        have HB9 := Lib.hid (HB3.out.trans (hb9.mono HB3.out.size))
        clear hb9
        go_wp2_with fail
        go_ret
        exact ⟨rfl, HB9.out⟩
      · skip
        obtain ⟨v1, w1, hr, ho1, hb1⟩ := make_zeros (P := Try.prog) w 52 5 Try.underlying52 info_u8c w.heap.size n (n : Int) rfl (by omega) (Nat.le_refl _)
        have c1 := own_string w1 w.heap.size 52 9 5 v1 _ Try.underlying52 Try.underlying5 Try.underlying9 ho1
        have hlen : (List.replicate n (0 : UInt8)).length = n := List.length_replicate
        generalize List.replicate n (0 : UInt8) = Z at *
        have HCL := Lib.hid (cutL_ones (n - 1) Z (by omega))
        have HB1 := Lib.hid hb1
        clear ho1 hb1
        have C1 := Lib.hid (CU Z 1 w1 (by omega) ⟨by decide, by decide⟩)
        have HE := Lib.hid (show cutE Z 1 = if 4096 < n then 7 else 0 by
          unfold cutE
          rw [if_neg (by decide), if_neg (by omega)]
          have : (cutL (1 : Int).toNat Z).length = n := by have := HCL.out; show (cutL 1 Z).length = n; omega
          rw [this])
        have HP := Lib.hid (show (cutP Z 1).length = if 4096 < n then 0 else n by
          unfold cutP
          rw [HE.out]
          by_cases c : 4096 < n
          · rw [if_pos c, if_pos (by decide), if_pos c]; rfl
          · rw [if_neg c, if_neg (by simp), if_neg c, partsL_len]
            have := HCL.out
            show (cutL 1 Z).length = n
            omega)
        generalize cutP Z 1 = L at *
        clear hn
        have HL := Lib.hid (HP.out.trans (if_pos (by omega)))
        have HE0 := Lib.hid (HE.out.trans (if_pos (by omega)))
        rw [HE0.out] at C1
        have NW := Lib.hid (fun X => BC.newBad (n : Int) X (by omega) ⟨by omega, by omega⟩)
        have q0 : (more == 0) = false := by simp; omega
        have u2 : wrap64 (4096 + more) = (n : Int) := by rw [u1, hN]
        have u3 : IntKind.i64.wrap (4096 + more) = (n : Int) := (IntWalk.i64_in _ (by omega)).trans hN
        clear HCL HE HP u1 hN
        go_wp2_with fail
        refine C1.out.mono ?_
        rintro e w2 ⟨v2, rfl, ho2, hb2⟩
        obtain ⟨a2, c2, hv2, _⟩ := (OwnN.row encPt_ok ho2).slice
        rw [HL.out] at hv2
        subst hv2
        have HB2 := Lib.hid (HB1.out.trans (hb2.mono HB1.out.size))
        clear ho2 hb2 C1 HB1
        go_wp2_with fail
        refine (NW.out _).mono ?_
        rintro e w3 ⟨rfl, hb3⟩
        have HB3 := Lib.hid (HB2.out.trans (hb3.mono HB2.out.size))
        clear hb3 NW HB2
        go_wp2_with fail
        refine (awake13_any CU _).mono ?_
        rintro e w9 ⟨rfl, hb9⟩
        have HB9 := Lib.hid (HB3.out.trans (hb9.mono HB3.out.size))
        clear hb9
        go_wp2_with fail
        go_ret
        exact ⟨rfl, HB9.out⟩
end Go.Proofs.Ytiknfohadnjkiaa
