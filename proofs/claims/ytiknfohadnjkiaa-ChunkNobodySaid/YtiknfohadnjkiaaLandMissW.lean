/- The landed box (chunk): Missing. -/
import Derived.Test.YtiknfohadnjkiaaBoxC
import Derived.Test.YtiknfohadnjkiaaChunkFillM
import Derived.Test.YtiknfohadnjkiaaChunkMath
import Derived.Test.YtiknfohadnjkiaaChunkMoreM
import Derived.Test.YtiknfohadnjkiaaFrame
import Derived.Test.YtiknfohadnjkiaaGen
import Derived.Test.YtiknfohadnjkiaaLandBox1W
import Derived.Test.YtiknfohadnjkiaaOwnL
import Derived.Test.YtiknfohadnjkiaaRefBoxW
import Derived.Test.YtiknfohadnjkiaaRefKeep2W
import Derived.Test.YtiknfohadnjkiaaRefKeep4W
import Derived.Test.YtiknfohadnjkiaaRowN
import Derived.Test.YtiknfohadnjkiaaRows
import Derived.BigQuiet
import Derived.Deep.QuietTactic
import Derived.Laws.OwnMore
import Derived.Laws.ResultCell
import Derived.Lib.Hide
import Derived.Outline
import Derived.WalkKit
import Derived.WalkLawsBesides
import Derived.WalkSpells
set_option linter.unusedVariables false
namespace Go.Proofs.Ytiknfohadnjkiaa
open Go.RowKit

set_option maxRecDepth 100000 in
set_option maxHeartbeats 2000000 in
theorem missing13_any {w : World} {b g c : Nat} {st : BoxS} (h : BXF w b g c st) (most : Int) (hm : I64 most) : Calls Try.prog 20 #[.pointer (some ⟨b, 0, none⟩), .int .i64 most] w fun e w' => ∃ v', e = .returned v' ∧ OwnN encI1 1 w' w.heap.size 3 v' ((missN st most).map (fun i : Nat => (i : Int))) ∧ Below w.heap.size w w' := by
  have HD := Lib.hid h
  have OF := Lib.hid (of13_any h)
  obtain ⟨e0, e1, e2⟩ := h.cell
  obtain ⟨hl1, hl2, hl3⟩ := h.len
  clear h
  go_enter Try.func20, Try.ntmps20
  go_wp2_with fail
  refine OF.out.mono ?_
  rintro e w1 ⟨rfl, rfl⟩
  go_wp2_with fail
  go_loopw [5, 9] (fun v5 v9 wr => ∃ i : Nat, i ≤ st.length ∧ v9 = .int .i64 (i : Nat) ∧ Hid ((missB (st.take i)).length ≤ most.toNat) ∧ OwnN encI1 1 wr w.heap.size 3 v5 ((missB (st.take i)).map (fun i : Nat => (i : Int))) ∧ Below w.heap.size w wr) (fun _ v9 _ => st.length - (intOf v9).toNat)
  case atStart => exact ⟨0, Nat.zero_le _, rfl, Lib.hid (Nat.zero_le _), OwnN.nil _ _ _ _ _, Below.refl _ _⟩
  case round =>
    obtain ⟨i, hi, rfl, HQ, hown, hb⟩ := hrel
    have HO := Lib.hid hown
    have HB := Lib.hid hb
    have hDR := HD.out.kept (Kept.new hb (fun _ => False)) (fun _ _ h => h)
    have HDR := Lib.hid hDR
    obtain ⟨d0, _, _⟩ := hDR.cell
    have i0 : (0 : Int) ≤ (i : Int) := by omega
    have hle := missB_le st i
    have hsz := hb.size
    obtain ⟨a5, k5, hv5, hk5⟩ := (OwnN.row encI1_ok hown).slice
    subst hv5
    rw [List.length_map] at hk5 HO ⊢
    clear hown hb hDR e0 e1 e2
    by_cases hlt : i < st.length
    · have j1 : (i : Int) < (st.length : Int) := by omega
      obtain ⟨_, d1, _, _⟩ := HDR.out.at hlt
      by_cases hge : most ≤ ((missB (st.take i)).length : Int)
      · have HN := Lib.hid (missN_told (st := st) hi hge HQ.out)
        generalize missB (st.take i) = out at *
        go_wp2_with fail
        go_ret
        exact ⟨_, rfl, by rw [HN.out]; exact HO.out, HB.out⟩
      · have HT := Lib.hid (show (missB (st.take (i + 1))).map (fun i : Nat => (i : Int)) = (missB (st.take i)).map (fun i : Nat => (i : Int)) ++ if st[i] = none then [(i : Int)] else [] by
          rw [missB_take hlt, List.map_append]
          congr 1
          split <;> rfl)
        have HL := Lib.hid (show (missB (st.take (i + 1))).length ≤ most.toNat by
          rw [missB_take hlt, List.length_append]
          split
          · rw [List.length_singleton]; omega
          · rw [List.length_nil]; omega)
        have hol : ((missB (st.take i)).map (fun i : Nat => (i : Int))).length ≤ 4096 := by
          rw [List.length_map]
          omega
        have HML := Lib.hid (show ((missB (st.take i)).map (fun i : Nat => (i : Int))).length = (missB (st.take i)).length by rw [List.length_map])
        generalize hmm : (missB (st.take i)).map (fun i : Nat => (i : Int)) = out at *
        clear hmm
        generalize (missB (st.take i)).length = n at *
        generalize hx : st[i] = x at *
        cases x with
        | none =>
          dsimp only [Option.isSome] at d1
          have HT1 := Lib.hid (HT.out.trans (by rw [if_pos rfl]))
          clear HT hx
          go_wp2_with (at_builtin; go_loud (refine append_new (enc := encI1) (k := 1) (w := wr) (by rfl) (.tmp 25) (.tmp 27) 43 3 (.int .i64 0) 8 (by rfl) Try.underlying43 info_int12 (by rfl) (by decide) encI1_ok w.heap.size _ out (i : Int) (by rfl) HO.out (by rfl) (by omega) (by unfold maxLen; omega) hsz _ (by rfl) ?_; intro v7 w7 hown7 ht7; have HO7 := Lib.hid hown7; have HB7 := Lib.hid (HB.out.trans ht7.bel); clear hown7 ht7))
          go_roundw
          case rel => exact ⟨i + 1, hlt, by go_num, HL, by rw [HT1.out]; exact HO7.out, HB7.out⟩
          case measure => simp [intOf]; omega
        | some t =>
          dsimp only [Option.isSome] at d1
          have HT1 := Lib.hid (HT.out.trans (by rw [if_neg (by simp), List.append_nil]))
          clear HT hx
          go_wp2_with fail
          go_roundw
          case rel => exact ⟨i + 1, hlt, by go_num, HL, by rw [HT1.out]; exact HO.out, HB.out⟩
          case measure => simp [intOf]; omega
    · have j1 : ¬ (i : Int) < (st.length : Int) := by omega
      have hie : st.take i = st := List.take_of_length_le (by omega)
      rw [hie] at HQ HO hle ⊢
      have HN := Lib.hid (missN_allOf HQ.out)
      clear hie
      go_wp2_with fail
      go_ret
      exact ⟨_, rfl, by rw [HN.out]; exact HO.out, HB.out⟩
end Go.Proofs.Ytiknfohadnjkiaa
