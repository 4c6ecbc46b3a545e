/- The walk of the document's Blocks. -/
import Derived.Test.YtcbodpcekjngbaaGreatFrame
import Derived.Test.YtcbodpcekjngbaaGreatGen
import Derived.Test.YtcbodpcekjngbaaGreatInfos
import Derived.Test.YtcbodpcekjngbaaGreatMarkMath
import Derived.Test.YtcbodpcekjngbaaGreatOwnL
import Derived.Test.YtcbodpcekjngbaaGreatRows
import Derived.Test.YtcbodpcekjngbaaGreatSigAt
import Derived.Test.YtcbodpcekjngbaaGreatSignMath
import Derived.BigQuiet
import Derived.Deep.QuietTactic
import Derived.IntWalk
import Derived.Laws.Rows
import Derived.Laws.Tables
import Derived.Lib.Hide
import Derived.Outline
import Derived.WalkKit
import Derived.WalkLawsBesides
import Derived.WalkSpells
set_option linter.unusedVariables false
namespace Go.Proofs.YtcbodpcekjngbaaGreat
open Go.RowKit

theorem blk_slice (b : Nat) (l : Txt) (a e : Nat) (h : e = min (a + b) l.length) : (l.take e).drop a = (l.drop a).take b := by
  subst h
  rw [List.drop_take]
  rcases Nat.lt_or_ge (a + b) l.length with h | h
  · rw [Nat.min_eq_left (by omega), Nat.add_sub_cancel_left]
  · rw [Nat.min_eq_right h, List.take_of_length_le (l := l.drop a) (i := b) (by rw [List.length_drop]; omega), List.take_of_length_le (by rw [List.length_drop]; omega)]
set_option maxRecDepth 100000 in
set_option maxHeartbeats 1000000 in
theorem refBlocks_any (b : Nat) (l : Txt) (w : World) (hb : 16 ≤ b) (hb2 : b ≤ 1024) (hl : l.length ≤ 524288) :
    Calls Tryz.prog 39 #[.string ⟨l.toArray⟩, .int .i64 b] w fun e w' => ∃ v, e = .returned v ∧ OwnL encT w' w.heap.size 9 v (cutS b l) ∧ Below w.heap.size w w' := by
  have L := Lib.hid (show (⟨l.toArray⟩ : ByteArray).size = l.length from rfl)
  go_enter Tryz.func39, Tryz.ntmps39
  go_wp2
  go_loopw [5, 6] (fun v i wr => ∃ (a : Nat) (done : List Txt), i = .int .i64 a ∧ cutS b l = done ++ cutS b (l.drop a) ∧ done.length ≤ a ∧ a ≤ l.length + 1024 ∧ OwnL encT wr w.heap.size 9 v done ∧ Below w.heap.size w wr) (fun _ i _ => l.length + 2048 - (intOf i).toNat)
  case atStart => exact ⟨0, [], rfl, by rw [List.drop_zero]; rfl, by simp, by omega, OwnL.nil _ _ _ _, Below.refl _ _⟩
  case round =>
    obtain ⟨a, done, rfl, hsp, hdl, ha, hown, hbel⟩ := hrel
    have Hown := Lib.hid hown; clear hown
    have Hbel := Lib.hid hbel; clear hbel
    have Hsp := Lib.hid hsp; clear hsp
    by_cases hlt : a < l.length
    · have hwb := Hbel.out.size
      obtain ⟨e9, he9⟩ : ∃ e9, a + b = e9 := ⟨_, rfl⟩
      have W9 : IntKind.i64.wrap ((a : Int) + (b : Int)) = (e9 : Int) := by rw [IntKind.wrap_i64]; omega
      have NX := Lib.hid (show cutS b l = (done ++ [(l.drop a).take b]) ++ cutS b (l.drop e9) by
        rw [Hsp.out, cutS_cons b (l.drop a) (by omega) (by rw [List.length_drop]; omega), List.drop_drop, he9, List.append_assoc]; rfl)
      obtain ⟨wo, rfl⟩ : ∃ wo : World, wo = wr := ⟨_, rfl⟩
      have i0 : (0 : Int) ≤ (a : Int) := by omega
      by_cases hc : l.length < e9
      · have g1 : (l.length : Int) < (e9 : Int) := by omega
        have i1 : (a : Int) ≤ (l.length : Int) := by omega
        have E : (⟨l.toArray⟩ : ByteArray).extract a l.length = ⟨((l.drop a).take b).toArray⟩ := by rw [slice_toArray, blk_slice b l a l.length (by omega)]
        generalize (l.drop a).take b = t at *
        go_wp2_with (at_builtin; refine append_elem (enc := encT) (y := t) rfl _ _ 23 9 (.string ByteArray.empty) 16 (by rfl) Tryz.underlying23 info_str rfl w.heap.size _ _ rfl (by rfl) Hown.out (by rfl) (by omega) (by unfold maxLen; omega) (by omega) ?_; intro v' w3 hown3 hb3 hk3)
        have Hown3 := Lib.hid hown3; clear hown3
        go_wp2
        go_roundw
        case rel => exact ⟨e9, _, by go_num, NX.out, by rw [List.length_append, List.length_singleton]; omega, by omega, Hown3.out, Hbel.out.trans hb3⟩
        case measure => simp [intOf]; omega
      · have g1 : ¬ (l.length : Int) < (e9 : Int) := by omega
        have i1 : (a : Int) ≤ (e9 : Int) := by omega
        have i2 : (e9 : Int) ≤ (l.length : Int) := by omega
        have E : (⟨l.toArray⟩ : ByteArray).extract a e9 = ⟨((l.drop a).take b).toArray⟩ := by rw [slice_toArray, blk_slice b l a e9 (by omega)]
        generalize (l.drop a).take b = t at *
        go_wp2_with (at_builtin; refine append_elem (enc := encT) (y := t) rfl _ _ 23 9 (.string ByteArray.empty) 16 (by rfl) Tryz.underlying23 info_str rfl w.heap.size _ _ rfl (by rfl) Hown.out (by rfl) (by omega) (by unfold maxLen; omega) (by omega) ?_; intro v' w3 hown3 hb3 hk3)
        have Hown3 := Lib.hid hown3; clear hown3
        go_wp2
        go_roundw
        case rel => exact ⟨e9, _, by go_num, NX.out, by rw [List.length_append, List.length_singleton]; omega, by omega, Hown3.out, Hbel.out.trans hb3⟩
        case measure => simp [intOf]; omega
    · have g1 : ¬ (a : Int) < (l.length : Int) := by omega
      have HA := Lib.hid (show done = cutS b l by have := Hsp.out; rw [List.drop_of_length_le (by omega), cutS_nil, List.append_nil] at this; exact this.symm)
      go_wp2
      go_ret
      exact ⟨_, rfl, by rw [← HA.out]; exact Hown.out, Hbel.out⟩
end Go.Proofs.YtcbodpcekjngbaaGreat
