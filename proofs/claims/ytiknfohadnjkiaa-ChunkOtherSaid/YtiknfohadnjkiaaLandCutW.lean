/- Landed chunk: Cut. -/
import Derived.Test.YtiknfohadnjkiaaBoxC
import Derived.Test.YtiknfohadnjkiaaChunkMath
import Derived.Test.YtiknfohadnjkiaaChunkMoreM
import Derived.Test.YtiknfohadnjkiaaFrame
import Derived.Test.YtiknfohadnjkiaaGen
import Derived.Test.YtiknfohadnjkiaaLandBox1W
import Derived.Test.YtiknfohadnjkiaaLandCloneW
import Derived.Test.YtiknfohadnjkiaaLandCountW
import Derived.Test.YtiknfohadnjkiaaOwnL
import Derived.Test.YtiknfohadnjkiaaRefBoxW
import Derived.Test.YtiknfohadnjkiaaRowN
import Derived.Test.YtiknfohadnjkiaaRows
import Derived.Test.YtiknfohadnjkiaaShelf
import Derived.BigQuiet
import Derived.BigRegion
import Derived.Deep.Cut
import Derived.Deep.QuietTactic
import Derived.Deep.RegionHeld3
import Derived.Laws.MakeOwn
import Derived.Laws.OwnMore
import Derived.Laws.ResultCell
import Derived.Lib.Hide
import Derived.Outline
import Derived.WalkKit
import Derived.WalkLawsBesides
import Derived.WalkSpells
set_option linter.unusedVariables false
namespace Go.Proofs.Ytiknfohadnjkiaa
open Go.RowKit

theorem info_partN : (Try.prog.info? 40).map (fun i => (i.zero, i.size, i.bytes)) = some (some (.agg #[.int .i64 0, .int .i64 0, .string ByteArray.empty]), 3, 32) := by kernel_rfl
theorem part_room (N : Int) (n : Nat) (w : World) (hN : N = (n : Int)) (hn : n ≤ 4096) : ∃ v w', (Instr.makeSlice 22 (.int .i64 0) (.int .i64 N)).run Try.prog w = .ok v w' ∧ OwnN encPt 3 w' w.heap.size 40 v [] ∧ Below w.heap.size w w' := by
  subst hN
  obtain ⟨i0, hi, hz0, hz1, hz2⟩ := info_parts info_partN
  obtain ⟨w', hr, hown, hg⟩ := run_make_own (P := Try.prog) w w.heap.size 22 40 i0 _ 3 Try.underlying22 hi hz0 hz1 .i64 .i64 n (by rw [hz2]; omega) (by unfold maxLen; omega) (Nat.le_refl _)
  exact ⟨_, _, hr, hown, (Below.refl w.heap.size w).grown hg (Nat.le_refl _) (fun k hk => by cases hk)⟩
theorem parts_next {n : Nat} {s : List UInt8} (hn : 0 < n) {i : Nat} (hi : i < (cutL n s).length) : (partsL (cutL n s)).take (i + 1) = (partsL (cutL n s)).take i ++ [⟨(i : Int), ((cutL n s).length : Int), (s.drop (i * n)).take n⟩] := by
  have hi2 : i < (partsL (cutL n s)).length := by rw [partsL_len]; exact hi
  rw [List.take_succ_eq_append_getElem hi2, partsL_get (cutL n s) i hi2, cutL_get i n s hn hi]
set_option maxRecDepth 100000 in
set_option maxHeartbeats 4000000 in
theorem cutC : CutC := by
  intro s size w hs hz
  have SA := Lib.hid (show (⟨s.toArray⟩ : ByteArray).size = s.length from rfl)
  obtain ⟨z1, z2⟩ := hz
  by_cases h1 : size < 1
  · have E := Lib.hid (show cutE s size = 1 by unfold cutE; rw [if_pos h1])
    have P := Lib.hid (show cutP s size = [] by unfold cutP; rw [if_pos (by rw [E.out]; decide)])
    go_enter Try.func10, Try.ntmps10
    go_wp2_with fail
    exact bodyPost_ret (results_tmp2 Try.results10 _ _ _) rfl ⟨_, by rw [E.out]; rfl, by rw [P.out]; exact OwnN.nil _ _ _ _ _, Below.refl _ _⟩
  · by_cases h2 : 524288 < s.length
    · have E := Lib.hid (show cutE s size = 4 by unfold cutE; rw [if_neg h1, if_pos h2])
      have P := Lib.hid (show cutP s size = [] by unfold cutP; rw [if_pos (by rw [E.out]; decide)])
      have j2 : (524288 : Int) < (s.length : Int) := by omega
      go_enter Try.func10, Try.ntmps10
      go_wp2_with fail
      exact bodyPost_ret (results_tmp2 Try.results10 _ _ _) rfl ⟨_, by rw [E.out]; rfl, by rw [P.out]; exact OwnN.nil _ _ _ _ _, Below.refl _ _⟩
    · have j2 : ¬ (524288 : Int) < (s.length : Int) := by omega
      have HCE := Lib.hid (show cutE s size = if 4096 < (cutL size.toNat s).length then 7 else 0 by unfold cutE; rw [if_neg h1, if_neg h2])
      have HCP := Lib.hid (fun (h : cutE s size = 0) => show cutP s size = partsL (cutL size.toNat s) by unfold cutP; rw [if_neg (by rw [h]; simp)])
      obtain ⟨n, hn⟩ : ∃ n : Nat, n = size.toNat := ⟨_, rfl⟩
      have hsz : size = (n : Int) := by omega
      subst hsz
      rw [Int.toNat_natCast] at HCE HCP
      have hn1 : 0 < n := by omega
      have CT := Lib.hid (count13_any s n w hn1 (by omega) (by omega))
      have HPN := Lib.hid (fun i (hi : i < (cutL n s).length) => parts_next (s := s) hn1 hi)
      clear hn
      by_cases h3 : 4096 < (cutL n s).length
      · have E := Lib.hid (show cutE s (n : Int) = 7 by rw [HCE.out, if_pos h3])
        have P := Lib.hid (show cutP s (n : Int) = [] by unfold cutP; rw [if_pos (by rw [E.out]; decide)])
        have j3 : (4096 : Int) < ((cutL n s).length : Int) := by omega
        generalize (cutL n s).length = m at *
        go_enter Try.func10, Try.ntmps10
        go_wp2_with fail
        refine CT.out.mono ?_
        rintro e w1 ⟨rfl, rfl⟩
        go_wp2_with fail
        exact bodyPost_ret (results_tmp2 Try.results10 _ _ _) rfl ⟨_, by rw [E.out]; rfl, by rw [P.out]; exact OwnN.nil _ _ _ _ _, Below.refl _ _⟩
      · have E := Lib.hid (HCE.out.trans (if_neg h3))
        have P := Lib.hid (HCP.out E.out)
        have HPL := Lib.hid (partsL_len (cutL n s))
        generalize partsL (cutL n s) = ps at *
        generalize (cutL n s).length = m at *
        have j3 : ¬ (4096 : Int) < (m : Int) := by omega
        have j4 : (0 : Int) ≤ (m : Int) := by omega
        have hm4 : m ≤ 4096 := by omega
        obtain ⟨v0, w0, hmk, hown0, hb0⟩ := part_room (m : Int) m w rfl hm4
        have HO0 := Lib.hid hown0
        have HB0 := Lib.hid hb0
        clear h3 HCE HCP hown0 hb0 h2
        go_enter Try.func10, Try.ntmps10
        go_wp2_with fail
        refine CT.out.mono ?_
        rintro e w1 ⟨rfl, rfl⟩
        go_wp2_with fail
        clear hmk CT
        go_loopw [0, 7, 24] (fun v0 v7 v24 wr => ∃ i : Nat, i ≤ m ∧ v24 = .int .i64 (i : Nat) ∧ v0 = .string ⟨(s.drop (i * n)).toArray⟩ ∧ OwnN encPt 3 wr w.heap.size 40 v7 (ps.take i) ∧ Below w.heap.size w wr) (fun _ _ v24 _ => m - (intOf v24).toNat)
        case atStart => exact ⟨0, Nat.zero_le _, rfl, by rw [Nat.zero_mul]; rfl, HO0.out, HB0.out⟩
        case round =>
          clear HB0 HO0
          obtain ⟨i, hi, rfl, rfl, hown, hb⟩ := hrel
          have HO := Lib.hid hown
          have HB := Lib.hid hb
          have hbs := hb.size
          have i0 : (0 : Int) ≤ (i : Int) := by omega
          obtain ⟨a5, k5, hv5, hk5⟩ := (OwnN.row encPt_ok hown).slice
          subst hv5
          clear hown hb
          by_cases hlt : i < m
          · have j5 : (i : Int) < (m : Int) := by omega
            have hpx : i < ps.length := by rw [HPL.out]; exact hlt
            have htl : (ps.take i).length ≤ 4096 := by rw [List.length_take]; omega
            have HT := Lib.hid (HPN.out i hlt)
            have HD := Lib.hid (show (s.drop (i * n)).drop n = s.drop ((i + 1) * n) by rw [List.drop_drop, Nat.succ_mul])
            have hrl : (s.drop (i * n)).length ≤ 524288 := by rw [List.length_drop]; omega
            obtain ⟨out, ho⟩ : ∃ out, out = ps.take i := ⟨_, rfl⟩
            rw [← ho] at HO HT htl hk5 ⊢
            clear ho
            generalize s.drop (i * n) = rest at *
            have RL := Lib.hid (show (⟨rest.toArray⟩ : ByteArray).size = rest.length from rfl)
            have HE := Lib.hid (show (⟨rest.toArray⟩ : ByteArray).extract 0 (((min rest.length n : Nat) : Int)).toNat = ⟨(rest.take n).toArray⟩ by
              rw [take_toArray, Int.toNat_natCast]
              congr 2
              rcases Nat.lt_or_ge rest.length n with h | h
              · rw [Nat.min_eq_left (by omega), List.take_of_length_le (Nat.le_refl _), List.take_of_length_le (by omega)]
              · rw [Nat.min_eq_right h])
            have HTL := Lib.hid (show rest.drop (rest.take n).length = rest.drop n by rw [List.length_take]; rcases Nat.lt_or_ge rest.length n with h | h; (rw [Nat.min_eq_right (by omega), List.drop_of_length_le (Nat.le_refl _), List.drop_of_length_le (by omega)]); (rw [Nat.min_eq_left h]))
            have HMN := Lib.hid (show min (n : Int) (rest.length : Int) = ((min rest.length n : Nat) : Int) by omega)
            have ht2 : (rest.take n).length ≤ rest.length := by rw [List.length_take]; omega
            go_upto_region 13 with fail
            rw [HMN.out, HE.out]
            have x2 : (⟨rest.toArray⟩ : ByteArray).extract (rest.take n).length rest.length = ⟨(rest.drop n).toArray⟩ := by rw [drop_toArray rest _ _ (Nat.le_refl _), HTL.out]
            rw [HD.out] at x2
            clear HMN HE HTL HD
            generalize ((min rest.length n : Nat) : Int) = mm at *
            obtain ⟨rest2, hr2⟩ : ∃ r, r = s.drop ((i + 1) * n) := ⟨_, rfl⟩
            rw [← hr2] at x2
            have HR2 := Lib.hid hr2
            clear hr2
            generalize rest.take n = t at *
            have ht3 : (t.length : Int) ≤ (rest.length : Int) := by omega
            have CL := fun w' => Lib.hid (cclone_any t w' (by omega))
            go_wp2_with (first | (go_at_call 24; refine (CL _).out.mono ?_; rintro e w3 ⟨rfl, hb3⟩; have HO3 := Lib.hid (HO.out.new hb3); have HB3 := Lib.hid (HB.out.trans (hb3.mono hbs)); have hbs3 := HB3.out.size; clear hb3) | (at_builtin; go_loud (refine append_new (enc := encPt) (k := 3) (w := w3) (by rfl) (.tmp 37) (.tmp 43) 22 40 (.agg #[.int .i64 0, .int .i64 0, .string ByteArray.empty]) 32 (by rfl) Try.underlying22 info_partN (by rfl) (by decide) encPt_ok w.heap.size _ out ⟨(i : Int), (m : Int), t⟩ (by rfl) HO3.out (by rfl) (by omega) (by unfold maxLen; omega) hbs3 _ (by rfl) ?_; intro v7 w7 hown7 ht7; have HO7 := Lib.hid hown7; have HB7 := Lib.hid (HB3.out.trans ht7.bel); clear hown7 ht7)))
            go_roundw
            case rel => exact ⟨i + 1, hlt, by go_num, by rw [HR2.out], by rw [HT.out]; exact HO7.out, HB7.out⟩
            case measure => simp [intOf]; omega
          · have j5 : ¬ (i : Int) < (m : Int) := by omega
            have hie : ps.take i = ps := List.take_of_length_le (by rw [HPL.out]; omega)
            rw [hie] at HO hk5 ⊢
            go_wp2_with fail
            exact bodyPost_ret (results_tmp2 Try.results10 _ _ _) rfl ⟨_, by rw [E.out]; rfl, by rw [P.out]; exact HO.out, HB.out⟩
end Go.Proofs.Ytiknfohadnjkiaa
