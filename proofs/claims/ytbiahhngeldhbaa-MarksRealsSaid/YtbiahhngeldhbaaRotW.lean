/- Walks of the turns to the right: the program's and the document's. -/
import Derived.Test.YtbiahhngeldhbaaRows
import Derived.Test.YtbiahhngeldhbaaGen
import Derived.Test.YtbiahhngeldhbaaShaMath
import Derived.Test.YtbiahhngeldhbaaBitLaw
import Derived.Test.YtbiahhngeldhbaaQuietLaw
import Derived.BigQuiet
import Derived.Deep.QuietTactic
import Derived.WalkKit
import Derived.WalkSpells
import Derived.Lib.Hide
import Derived.WalkLawsBesides
import Derived.Outline
import Derived.IntWalk
set_option linter.unusedVariables false
namespace Go.Proofs.Ytbiahhngeldhbaa
open Go.RowKit

theorem rotr_lt (x n : Nat) (hx : x < 4294967296) : rotr x n < 4294967296 := by
  unfold rotr
  exact Nat.or_lt_two_pow (n := 32) (Nat.lt_of_le_of_lt (Nat.div_le_self _ _) (by omega)) (by omega)
theorem u32_or_comm (a b : Nat) : a ||| b = b ||| a := Nat.or_comm a b

theorem rot_s (n : Nat) (hn1 : 1 ≤ n) (hn2 : n ≤ 31) : bits .and .u64 (IntKind.u64.wrap (-(n : Int))) 31 = ((32 - n : Nat) : Int) := by
  rw [IntKind.wrap_u64]
  have e : (-(n : Int)) % 18446744073709551616 = ((18446744073709551616 - n : Nat) : Int) := by omega
  have := u64_and_nat (18446744073709551616 - n) 31 (by omega) (by decide)
  rw [show ((31 : Nat) : Int) = 31 from rfl] at this
  rw [e, this, show (31 : Nat) = 2 ^ 5 - 1 from rfl, and_low]
  omega

theorem ret_u32 {a b : Int} (h : a = b) : Ending.returned (.int .u32 a) = .returned (.int .u32 b) := by rw [h]
theorem rot_or (x n s : Nat) (hx : x < 4294967296) (hn1 : 1 ≤ n) (hn2 : n ≤ 31) (hs : s = 32 - n) : bits .or .u32 ((x : Int) * 2 ^ s % 4294967296) ((x : Int) / 2 ^ (32 - s)) = ((rotr x n : Nat) : Int) := by
  have h1 : (x : Int) * 2 ^ s % 4294967296 = ((x * 2 ^ s % 4294967296 : Nat) : Int) := by rw [Int.natCast_emod, Int.natCast_mul, Int.natCast_pow]; rfl
  have h2 : (x : Int) / 2 ^ (32 - s) = ((x / 2 ^ n : Nat) : Int) := by rw [show 32 - s = n by omega, Int.natCast_ediv, Int.natCast_pow]; rfl
  rw [h1, h2, u32_or_nat _ _ (by omega) (Nat.lt_of_le_of_lt (Nat.div_le_self _ _) hx)]
  unfold rotr
  rw [hs, Nat.or_comm]
set_option maxRecDepth 100000 in
theorem rot_any (x n : Nat) (w : World) (hx : x < 4294967296) (hn1 : 1 ≤ n) (hn2 : n ≤ 31) :
    Calls Try.prog 49 #[.int .u32 x, .int .i64 (-(n : Int))] w fun e w' => e = .returned (.int .u32 (rotr x n : Nat)) ∧ w = w' := by
  have e1 := rot_s n hn1 hn2
  obtain ⟨s, hs⟩ : ∃ s, s = 32 - n := ⟨_, rfl⟩
  rw [← hs] at e1
  have s1 : 1 ≤ s := by omega
  have s2 : s ≤ 31 := by omega
  have HS := Lib.hid hs; clear hs
  go_enter Try.func49, Try.ntmps49
  go_wp2
  go_ret
  exact ⟨ret_u32 (rot_or x n s hx hn1 hn2 HS.out), rfl⟩

theorem right_any (x n : Nat) (w : World) (hx : x < 4294967296) (hn1 : 1 ≤ n) (hn2 : n ≤ 31) :
    Calls Try.prog 45 #[.int .u32 x, .int .i64 n] w fun e w' => e = .returned (.int .u32 (rotr x n : Nat)) ∧ w = w' := by
  have C := fun w' => Lib.hid (rot_any x n w' hx hn1 hn2)
  go_enter Try.func45, Try.ntmps45
  go_wp2_with fail
  refine (C _).out.mono ?_
  rintro e w' ⟨rfl, rfl⟩
  go_wp2
  go_ret
  exact ⟨rfl, rfl⟩

theorem low_any (x : Int) (y : Nat) (w : World) (h : x % 4294967296 = (y : Int)) :
    Calls Try.prog 34 #[.int .i64 x] w fun e w' => e = .returned (.int .i64 (y : Nat)) ∧ w = w' := by
  have e1 := i64_and32 x
  rw [h] at e1
  clear h
  go_enter Try.func34, Try.ntmps34
  go_wp2
  go_ret
  exact ⟨rfl, rfl⟩

theorem i64_or_nat (a b : Nat) (ha : a < 9223372036854775808) (hb : b < 9223372036854775808) : bits .or .i64 (a : Int) (b : Int) = ((a ||| b : Nat) : Int) := by
  have hx : a ||| b < 2 ^ 63 := Nat.or_lt_two_pow (by omega) (by omega)
  show IntKind.i64.wrap ((BitVec.ofInt 64 (a : Int) ||| BitVec.ofInt 64 (b : Int)).toNat : Int) = _
  rw [BitVec.toNat_or, ofInt_i64 a (by omega), ofInt_i64 b (by omega), IntKind.wrap_i64]
  omega
theorem i64_and_nat (a b : Nat) (ha : a < 9223372036854775808) (hb : b < 9223372036854775808) : bits .and .i64 (a : Int) (b : Int) = ((a &&& b : Nat) : Int) := by
  have hx : a &&& b < 2 ^ 63 := Nat.and_lt_two_pow _ (by omega)
  show IntKind.i64.wrap ((BitVec.ofInt 64 (a : Int) &&& BitVec.ofInt 64 (b : Int)).toNat : Int) = _
  rw [BitVec.toNat_and, ofInt_i64 a (by omega), ofInt_i64 b (by omega), IntKind.wrap_i64]
  omega
theorem or_mod32 (a b : Nat) : (a ||| b) % 4294967296 = (a % 4294967296) ||| (b % 4294967296) := Nat.or_mod_two_pow (n := 32)
set_option maxRecDepth 100000 in
theorem refRight_any (x n : Nat) (w : World) (hx : x < 4294967296) (hn1 : 2 ≤ n) (hn2 : n ≤ 31) :
    Calls Try.prog 35 #[.int .i64 x, .int .i64 n] w fun e w' => e = .returned (.int .i64 (rotr x n : Nat)) ∧ ∃ m, w' = w.drewN m := by
  obtain ⟨s, hs⟩ : ∃ s, s = 32 - n := ⟨_, rfl⟩
  have hle : 2 ^ s ≤ 2 ^ 30 := Nat.pow_le_pow_right (by decide) (by omega)
  have hlt : x * 2 ^ s < 4611686018427387904 := by
    have : x * 2 ^ s ≤ x * 2 ^ 30 := Nat.mul_le_mul_left _ hle
    omega
  have hd : x / 2 ^ n < 4294967296 := Nat.lt_of_le_of_lt (Nat.div_le_self _ _) hx
  have hlt2 : x / 2 ^ n ||| x * 2 ^ s < 2 ^ 62 := Nat.or_lt_two_pow (by omega) (by omega)
  have e2 : bits .or .i64 ((x : Int) / 2 ^ n) (IntKind.i64.wrap ((x : Int) * 2 ^ s)) = ((x / 2 ^ n ||| x * 2 ^ s : Nat) : Int) := by
    have h1 : (x : Int) / 2 ^ n = ((x / 2 ^ n : Nat) : Int) := by rw [Int.natCast_ediv, Int.natCast_pow]; rfl
    have h2 : (x : Int) * 2 ^ s = ((x * 2 ^ s : Nat) : Int) := by rw [Int.natCast_mul, Int.natCast_pow]; rfl
    rw [h1, h2, IntWalk.i64_in _ (by omega), i64_or_nat _ _ (by omega) (by omega)]
  have e3 : ((x / 2 ^ n ||| x * 2 ^ s : Nat) : Int) % 4294967296 = ((rotr x n : Nat) : Int) := by
    have : (x / 2 ^ n ||| x * 2 ^ s) % 4294967296 = rotr x n := by
      rw [or_mod32, Nat.mod_eq_of_lt hd]
      unfold rotr
      rw [hs]
    rw [← this, Int.natCast_emod]
    rfl
  have C := fun w' => Lib.hid (low_any _ _ w' e3)
  generalize x / 2 ^ n ||| x * 2 ^ s = o at *
  clear hlt hle hd e3 hlt2
  have W1 : IntKind.i64.wrap (32 - (n : Int)) = (s : Int) := by rw [IntWalk.i64_in _ (by omega)]; omega
  have s1 : 1 ≤ s := by omega
  have s2 : s ≤ 30 := by omega
  have HS := Lib.hid hs; clear hs
  go_enter Try.func35, Try.ntmps35
  go_wp2
  go_quiet ((go_at_call 34; exact quiet_left (C _).out))
  go_wp2
  go_ret
  exact ⟨rfl, _, rfl⟩
end Go.Proofs.Ytbiahhngeldhbaa
