/- Walks of the document's own numbers as marks. -/
import Derived.Test.YtcbodpcekjngbaaGreatFrame
import Derived.Test.YtcbodpcekjngbaaGreatGen
import Derived.Test.YtcbodpcekjngbaaGreatInfos
import Derived.Test.YtcbodpcekjngbaaGreatMarkMath
import Derived.Test.YtcbodpcekjngbaaGreatOwnL
import Derived.Test.YtcbodpcekjngbaaGreatRows
import Derived.IntWalk
import Derived.Laws.BitsAllLaws
import Derived.Laws.Rows
import Derived.Laws.Tables
import Derived.Lib.Hide
import Derived.Outline
import Derived.WalkKit
import Derived.WalkLawsBesides
import Derived.WalkSpells
set_option linter.unusedVariables false
namespace Go.Proofs.YtcbodpcekjngbaaGreat
open Go.RowKit


set_option maxRecDepth 100000 in
set_option maxHeartbeats 400000 in
theorem number_any (n : Nat) (w : World) (hn : n < 9223372036854775808) :
    Calls Tryz.prog 79 #[.int .i64 n] w fun e w' => e = .returned (.string ⟨(numM n).toArray⟩) ∧ Below w.heap.size w w' := by
  go_enter Tryz.func79, Tryz.ntmps79
  go_wp2
  go_loopw [0, 3, 4] (fun m v i wr => ∃ k q : Nat, k ≤ 32 ∧ i = .int .i64 k ∧ m = .int .i64 q ∧ q < 9223372036854775808 ∧ q = n / 256 ^ k ∧ Own wr w.heap.size 5 v (leN k n) ∧ Below w.heap.size w wr)
    (fun _ _ i _ => 32 - (intOf i).toNat)
  case atStart => exact ⟨0, n, by omega, rfl, rfl, hn, by simp, Own.nil _ _ _, Below.refl _ _⟩
  case round =>
    obtain ⟨k, q, hk, rfl, rfl, hq, hqn, hown, hbel⟩ := hrel
    have hbw := hbel.size
    have hlen := leN_length k n
    have Hown := Lib.hid hown; clear hown
    have Hq := Lib.hid hqn; clear hqn
    by_cases hlt : k < 32
    · have Sn := Lib.hid (leN_snoc k n)
      have hlen2 : (leN k n).length < 70368744177664 := by omega
      clear hlen
      go_wp2_with (at_builtin; refine append_byte rfl _ _ 73 5 (by rfl) Tryz.underlying73 info_u8 w.heap.size _ _ _ (by rfl) Hown.out (by rfl) (by omega) (by omega) hlen2 hbw ?_; intro v' w1 hown1 hb1)
      have Hown1 := Lib.hid hown1; clear hown1
      go_wp2
      go_roundw
      case rel =>
        refine ⟨k + 1, q / 256, by omega, by go_num, by go_num, by omega, by rw [Hq.out, Nat.div_div_eq_div_mul, Nat.pow_succ], ?_, hbel.trans hb1⟩
        rw [Sn.out, ← Hq.out]
        have e := Hown1.out
        have e2 : ((q : Int) % 256).toNat = q % 256 := by omega
        rw [e2] at e
        exact e
      case measure => simp [intOf]; omega
    · have hk2 : k = 32 := by omega
      have hown2 := Hown.out
      rw [hk2] at hown2
      have hc := own_string (P := Tryz.prog) wr w.heap.size 73 9 5 _ (leN 32 n) Tryz.underlying73 Tryz.underlying5 Tryz.underlying9 hown2
      clear hown2 hlen hk2
      go_wp2
      go_ret
      exact ⟨rfl, hbel⟩

set_option maxRecDepth 100000 in
set_option maxHeartbeats 400000 in
theorem number_neg (n : Int) (w : World) (hn : n < 0) (hn2 : -9223372036854775808 ≤ n) :
    Calls Tryz.prog 79 #[.int .i64 n] w fun e w' => ∃ l : List UInt8, e = .returned (.string ⟨l.toArray⟩) ∧ Below w.heap.size w w' := by
  go_enter Tryz.func79, Tryz.ntmps79
  go_wp2
  go_loopw [0, 3, 4] (fun m v i wr => ∃ (k : Nat) (q : Int) (l : List UInt8), k ≤ 32 ∧ i = .int .i64 k ∧ m = .int .i64 q ∧ -9223372036854775808 ≤ q ∧ q ≤ 0 ∧ l.length = k ∧ Own wr w.heap.size 5 v l ∧ Below w.heap.size w wr)
    (fun _ _ i _ => 32 - (intOf i).toNat)
  case atStart => exact ⟨0, n, [], by omega, rfl, rfl, hn2, by omega, rfl, Own.nil _ _ _, Below.refl _ _⟩
  case round =>
    obtain ⟨k, q, l, hk, rfl, rfl, hq1, hq2, hlen, hown, hbel⟩ := hrel
    have hbw := hbel.size
    have Hown := Lib.hid hown; clear hown
    have hlen2 : l.length < 70368744177664 := by omega
    have Hlen := Lib.hid hlen; clear hlen
    by_cases hlt : k < 32
    · have b1 : 0 ≤ q.tmod 256 % 256 := Int.emod_nonneg _ (by decide)
      have b2 : q.tmod 256 % 256 < 256 := Int.emod_lt_of_pos _ (by decide)
      have d1 : q.tdiv 256 = -((-q) / 256) := by
        have e : q = -(-q) := by omega
        conv => lhs; rw [e]
        rw [Int.neg_tdiv, Int.tdiv_eq_ediv_of_nonneg (by omega)]
      have d2 : -9223372036854775808 ≤ q.tdiv 256 := by rw [d1]; omega
      have d3 : q.tdiv 256 ≤ 0 := by rw [d1]; omega
      clear d1
      go_wp2_with (at_builtin; refine append_byte rfl _ _ 73 5 (by rfl) Tryz.underlying73 info_u8 w.heap.size _ _ _ (by rfl) Hown.out (by rfl) b1 b2 hlen2 hbw ?_; intro v' w1 hown1 hb1)
      have Hown1 := Lib.hid hown1; clear hown1
      go_wp2
      go_roundw
      case rel => exact ⟨k + 1, _, _, by omega, by go_num, rfl, d2, d3, by simp [Hlen.out], Hown1.out, hbel.trans hb1⟩
      case measure => simp [intOf]; omega
    · have hc := own_string (P := Tryz.prog) wr w.heap.size 73 9 5 _ l Tryz.underlying73 Tryz.underlying5 Tryz.underlying9 Hown.out
      go_wp2
      go_ret
      exact ⟨l, rfl, hbel⟩
end Go.Proofs.YtcbodpcekjngbaaGreat
