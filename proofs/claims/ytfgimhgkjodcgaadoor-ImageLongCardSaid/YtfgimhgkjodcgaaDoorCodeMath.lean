/- The bytes of a number, as plain mathematics: what the walks of package code are held against. -/
import Derived.Deep.Draws
import Derived.Laws.Bits128
import Derived.Laws.IdiomStrings
import Derived.Lib.AppendStr
import Derived.Lib.Hide
import Derived.WalkKit
set_option linter.unusedVariables false
namespace Go.Proofs.YtfgimhgkjodcgaaDoor
open Go.RowKit

/-- A number's bytes, with fuel: seven bits each, the lowest first. -/
def numB : Nat → Nat → List UInt8
  | 0, n => [UInt8.ofNat n]
  | f + 1, n => if n < 128 then [UInt8.ofNat n] else UInt8.ofNat (n % 128 + 128) :: numB f (n / 128)

/-- A number's bytes. -/
def nb (n : Nat) : List UInt8 := numB 9 n

theorem numB_small (f n : Nat) (h : n < 128) : numB f n = [UInt8.ofNat n] := by
  cases f <;> simp [numB, h]
theorem numB_big (f n : Nat) (h : ¬ n < 128) : numB (f + 1) n = UInt8.ofNat (n % 128 + 128) :: numB f (n / 128) := by
  simp [numB, h]
theorem numB_length (f n : Nat) : 1 ≤ (numB f n).length ∧ (numB f n).length ≤ f + 1 := by
  induction f generalizing n with
  | zero => simp [numB]
  | succ f ih =>
    unfold numB
    split
    · simp
    · have := ih (n / 128); simp; omega
theorem nb_length (n : Nat) : 1 ≤ (nb n).length ∧ (nb n).length ≤ 10 := numB_length 9 n

end Go.Proofs.YtfgimhgkjodcgaaDoor
