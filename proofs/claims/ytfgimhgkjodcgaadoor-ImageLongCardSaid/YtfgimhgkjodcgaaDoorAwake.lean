/- The document's own example holds: what each statement of layer 1 asks for at its end. And the document's numbers. -/
import Derived.Test.YtfgimhgkjodcgaaDoorCodeMath
import Derived.Test.YtfgimhgkjodcgaaDoorGen
import Derived.Test.YtfgimhgkjodcgaaDoorInfos
import Derived.Test.YtfgimhgkjodcgaaDoorReadMath
import Derived.Test.YtfgimhgkjodcgaaDoorReadW
import Derived.Test.YtfgimhgkjodcgaaDoorRows
import Derived.BigQuiet
import Derived.Lib.Hide
import Derived.WalkKit
import Derived.WalkLawsBesides
import Derived.WalkSpells
set_option linter.unusedVariables false
namespace Go.Proofs.YtfgimhgkjodcgaaDoor
open Go.RowKit

theorem nb_300 : nb 300 = [172, 2] := by decide +kernel
theorem rNum_300 : (rNum ⟨[172, 2], 0⟩).1 = 300 ∧ (rNum ⟨[172, 2], 0⟩).2 = ⟨[], 0⟩ := by
  constructor <;> rfl


set_option maxRecDepth 100000 in
set_option maxHeartbeats 400000 in
theorem refNum_ok (n : Nat) (w : World) (hn : n ≤ 4611686018427387903) :
    Calls Tryd.prog 57 #[.int .i64 n] w fun e w' => e = .returned (.tuple #[.string ⟨(nb n).toArray⟩, .int .i64 0]) ∧ Below w.heap.size w w' := by
  go_enter Tryd.func57, Tryd.ntmps57
  go_wp2
  go_loopw [0, 4] (fun m v wr => ∃ (f q : Nat) (pre : List UInt8), m = .int .i64 q ∧ q ≤ n ∧ q < 128 ^ f * 128 ∧ pre.length ≤ 9 - f ∧ f ≤ 9 ∧ nb n = pre ++ numB f q ∧
      Own wr w.heap.size 5 v pre ∧ Below w.heap.size w wr)
    (fun m _ _ => (intOf m).toNat)
  case atStart => exact ⟨9, n, [], rfl, by omega, by simp only [Nat.reducePow]; omega, by simp, by omega, rfl, Own.nil _ _ _, Below.refl _ _⟩
  case round =>
    obtain ⟨f, q, pre, rfl, hq, hqf, hpre, hf9, hnb, hown1, hbel⟩ := hrel
    have hlen : pre.length < 70368744177664 := by omega
    have hbw := hbel.size
    have Hnb := Lib.hid hnb; clear hnb
    have Hown := Lib.hid hown1; clear hown1
    by_cases hlt : q < 128
    · go_wp2_with (at_builtin; refine append_byte rfl _ _ 31 5 (by rfl) Tryd.underlying31 info_u8 w.heap.size _ _ _ (by rfl) Hown.out (by rfl) (by omega) (by omega) hlen hbw ?_; intro v' w1 hown1 hb1)
      have hc := own_string (P := Tryd.prog) w1 w.heap.size 31 9 5 v' _ Tryd.underlying31 Tryd.underlying5 Tryd.underlying9 hown1
      go_wp2
      rw [hc]
      go_wp2
      go_ret2
      refine ⟨?_, hbel.trans hb1⟩
      rw [Hnb.out, numB_small f q hlt]
      simp
    · obtain ⟨f', rfl⟩ : ∃ f', f = f' + 1 := by
        cases f with
        | zero => exact absurd hqf (by simpa using hlt)
        | succ f' => exact ⟨f', rfl⟩
      have hqf' : q / 128 < 128 ^ f' * 128 := by
        rw [Nat.pow_succ] at hqf
        omega
      clear hqf
      go_wp2_with (at_builtin; refine append_byte rfl _ _ 31 5 (by rfl) Tryd.underlying31 info_u8 w.heap.size _ _ _ (by rfl) Hown.out (by rfl) (by omega) (by omega) hlen hbw ?_; intro v' w1 hown1 hb1)
      have Hown1 := Lib.hid hown1; clear hown1
      go_wp2
      go_roundw
      case rel =>
        refine ⟨f', q / 128, pre ++ [UInt8.ofNat (q % 128 + 128)], by go_num, by omega, hqf', by simp; omega, by omega, ?_, ?_, hbel.trans hb1⟩
        · rw [Hnb.out, numB_big f' q hlt]
          simp
        · have e1 := Hown1.out
          have e2 : ((q : Int) % 128 + 128).toNat = q % 128 + 128 := by omega
          simpa [e2] using e1
      case measure => simp [intOf]; omega

theorem refNum_no (n : Int) (w : World) (hn : n < 0 ∨ 4611686018427387903 < n) :
    Calls Tryd.prog 57 #[.int .i64 n] w fun e w' => e = .returned (.tuple #[.string ⟨#[]⟩, .int .i64 2]) ∧ w' = w := by
  rcases hn with h | h
  · go_enter Tryd.func57, Tryd.ntmps57
    go_wp2
    go_ret2
    exact ⟨rfl, rfl⟩
  · have h' : ¬ n < 0 := by omega
    go_enter Tryd.func57, Tryd.ntmps57
    go_wp2
    go_ret2
    exact ⟨rfl, rfl⟩



end Go.Proofs.YtfgimhgkjodcgaaDoor
