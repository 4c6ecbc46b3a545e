/- The document's own example holds: what each statement of layer 1 asks for at its end. And the document's numbers. -/
import Derived.Test.YtegdabdnbglhaaaReadNumW
import Derived.Test.YtegdabdnbglhaaaCodeNumW
import Derived.WalkKit
import Derived.WalkSpells
import Derived.WalkLawsBesides
import Derived.BigQuiet
set_option linter.unusedVariables false
namespace Go.Proofs.Ytegdabdnbglhaaa
open Go.RowKit

theorem nb_300 : nb 300 = [172, 2] := by decide +kernel
theorem rNum_300 : (rNum ⟨[172, 2], 0⟩).1 = 300 ∧ (rNum ⟨[172, 2], 0⟩).2 = ⟨[], 0⟩ := by
  constructor <;> rfl

set_option maxHeartbeats 400000 in
theorem awake_any (w : World) : Calls Try.prog 13 #[] w fun e w' => e = .returned (.bool true) ∧ Below w.heap.size w w' := by
  have Hn := Lib.hid (num_ok 300 w (by decide))
  rw [nb_300] at Hn
  go_enter Try.func13, Try.ntmps13
  go_wp2_with fail
  refine Hn.out.mono ?_
  rintro e w1 ⟨rfl, hb1⟩
  have Hr := Lib.hid (read_any [172, 2] w1)
  go_wp2_with fail
  refine Hr.out.mono ?_
  rintro e w2 ⟨rfl, hr2, hb2⟩
  have Hm := Lib.hid (rnum_any w2 w1.heap.size _ hr2 (.inl rfl))
  rw [rNum_300.1, rNum_300.2] at Hm
  go_wp2_with fail
  refine Hm.out.mono ?_
  rintro e w3 ⟨rfl, hr3, hk3⟩
  have He := Lib.hid (end_any w3 w1.heap.size _ hr3)
  go_wp2_with fail
  refine He.out.mono ?_
  rintro e w4 ⟨rfl, hr4, hk4⟩
  go_wp2
  go_ret
  refine ⟨rfl, hb1.trans ((hb2.mono hb1.size).trans ((hk3.trans hk4).below ?_ ?_))⟩
  · exact Nat.le_trans hb1.size hb2.size
  · rintro k rfl; exact hb1.size

set_option maxRecDepth 100000 in
set_option maxHeartbeats 400000 in
theorem refNum_ok (n : Nat) (w : World) (hn : n ≤ 4611686018427387903) :
    Calls Try.prog 12 #[.int .i64 n] w fun e w' => e = .returned (.tuple #[.string ⟨(nb n).toArray⟩, .int .i64 0]) ∧ Below w.heap.size w w' := by
  go_enter Try.func12, Try.ntmps12
  go_wp2
  go_loopw [0, 4] (fun m v wr => ∃ (f q : Nat) (pre : List UInt8), m = .int .i64 q ∧ q ≤ n ∧ q < 128 ^ f * 128 ∧ pre.length ≤ 9 - f ∧ f ≤ 9 ∧ nb n = pre ++ numB f q ∧
      Own wr w.heap.size 5 v pre ∧ Below w.heap.size w wr)
    (fun m _ _ => (intOf m).toNat)
  case atStart => exact ⟨9, n, [], rfl, by omega, by simp only [Nat.reducePow]; omega, by simp, by omega, rfl, Own.nil _ _ _, Below.refl _ _⟩
  case round =>
    obtain ⟨f, q, pre, rfl, hq, hqf, hpre, hf9, hnb, hown1, hbel⟩ := hrel
    have hlen : pre.length < 70368744177664 := by omega
    have hbw := hbel.size
    have Hnb := Lib.hid hnb; clear hnb
    have Hown := Lib.hid hown1; clear hown1
    by_cases hlt : q < 128
    · go_wp2_with (at_builtin; refine append_byte rfl _ _ 54 5 (by rfl) Try.underlying54 info_u8 w.heap.size _ _ _ (by rfl) Hown.out (by rfl) (by omega) (by omega) hlen hbw ?_; intro v' w1 hown1 hb1)
      have hc := own_string (P := Try.prog) w1 w.heap.size 54 9 5 v' _ Try.underlying54 Try.underlying5 Try.underlying9 hown1
      go_wp2
      rw [hc]
      go_wp2
      go_ret2
      refine ⟨?_, hbel.trans hb1⟩
      rw [Hnb.out, numB_small f q hlt]
      simp
    · obtain ⟨f', rfl⟩ : ∃ f', f = f' + 1 := by
        cases f with
        | zero => exact absurd hqf (by simpa using hlt)
        | succ f' => exact ⟨f', rfl⟩
      have hqf' : q / 128 < 128 ^ f' * 128 := by
        rw [Nat.pow_succ] at hqf
        omega
      clear hqf
      go_wp2_with (at_builtin; refine append_byte rfl _ _ 54 5 (by rfl) Try.underlying54 info_u8 w.heap.size _ _ _ (by rfl) Hown.out (by rfl) (by omega) (by omega) hlen hbw ?_; intro v' w1 hown1 hb1)
      have Hown1 := Lib.hid hown1; clear hown1
      go_wp2
      go_roundw
      case rel =>
        refine ⟨f', q / 128, pre ++ [UInt8.ofNat (q % 128 + 128)], by go_num, by omega, hqf', by simp; omega, by omega, ?_, ?_, hbel.trans hb1⟩
        · rw [Hnb.out, numB_big f' q hlt]
          simp
        · have e1 := Hown1.out
          have e2 : ((q : Int) % 128 + 128).toNat = q % 128 + 128 := by omega
          simpa [e2] using e1
      case measure => simp [intOf]; omega

theorem refNum_no (n : Int) (w : World) (hn : n < 0 ∨ 4611686018427387903 < n) :
    Calls Try.prog 12 #[.int .i64 n] w fun e w' => e = .returned (.tuple #[.string ⟨#[]⟩, .int .i64 2]) ∧ w' = w := by
  rcases hn with h | h
  · go_enter Try.func12, Try.ntmps12
    go_wp2
    go_ret2
    exact ⟨rfl, rfl⟩
  · have h' : ¬ n < 0 := by omega
    go_enter Try.func12, Try.ntmps12
    go_wp2
    go_ret2
    exact ⟨rfl, rfl⟩

theorem below2 {a b c : World} (h : Below a.heap.size a b) (k : Below b.heap.size b c) : Below a.heap.size a c := h.trans (k.mono h.size)

/-- Statement 1.1 CodeNums: its walk. -/
theorem codeNums_any (n : Int) (w : World) : Calls Try.prog 3 #[.int .i64 n] w fun e w' => e = .returned (.bool true) ∧ Below w.heap.size w w' := by
  by_cases hn : n < 0 ∨ 4611686018427387903 < n
  · have Hn := Lib.hid (num_no n w hn)
    have Hm := Lib.hid (refNum_no n w hn)
    clear hn
    go_enter Try.func3, Try.ntmps3
    go_wp2_with fail
    refine Hn.out.mono ?_
    rintro e w1 ⟨rfl, rfl⟩
    go_wp2_with fail
    refine Hm.out.mono ?_
    rintro e w1 ⟨rfl, rfl⟩
    have Ha := Lib.hid (awake_any w1)
    go_wp2_with fail
    refine Ha.out.mono ?_
    rintro e w2 ⟨rfl, hb⟩
    go_wp2
    go_ret
    exact ⟨rfl, hb⟩
  · obtain ⟨m, rfl⟩ := Int.eq_ofNat_of_zero_le (show 0 ≤ n by omega)
    have hm : m ≤ 4611686018427387903 := by omega
    have Hn := Lib.hid (num_ok m w hm)
    have Hm := fun w => Lib.hid (refNum_ok m w hm)
    clear hn hm
    generalize (nb m).toArray = bs at Hn Hm
    go_enter Try.func3, Try.ntmps3
    go_wp2_with fail
    refine Hn.out.mono ?_
    rintro e w1 ⟨rfl, hb1⟩
    go_wp2_with fail
    refine (Hm w1).out.mono ?_
    rintro e w2 ⟨rfl, hb2⟩
    have Ha := Lib.hid (awake_any w2)
    go_wp2_with fail
    refine Ha.out.mono ?_
    rintro e w3 ⟨rfl, hb3⟩
    go_wp2
    go_ret
    exact ⟨rfl, below2 (below2 hb1 hb2) hb3⟩

theorem codeNums_walk (n : Int) (_ : -9223372036854775808 ≤ n) (_ : n ≤ 9223372036854775807) (w : World) :
    Calls Try.prog 3 #[.int .i64 n] w fun e w' => e = .returned (.bool true) ∧ Below w.heap.size w w' := codeNums_any n w
end Go.Proofs.Ytegdabdnbglhaaa
