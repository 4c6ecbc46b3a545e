/- The lowest bit of a number; what a map of bits makes of a number, bit by bit. Of no program. -/
import Derived.Test.YtjgoceebjmnjcaaDoorBurstMath
import Derived.Lib.TrailingZeros
set_option linter.unusedVariables false
namespace Go.Proofs.YtjgoceebjmnjcaaDoor

/-- Without its lowest bit. -/
theorem low_off (t m : Nat) : (2 ^ t * (2 * m + 1)) &&& (2 ^ t * (2 * m + 1) - 1) = 2 ^ t * (2 * m) ∧ 2 ^ t * (2 * m) = (2 ^ t * (2 * m + 1)) ^^^ 2 ^ t := by
  have ht := Nat.two_pow_pos t
  have e1 : 2 ^ t * (2 * m + 1) - 1 = 2 ^ t * (2 * m) + (2 ^ t - 1) := by rw [Nat.mul_add, Nat.mul_one]; omega
  have hb : ∀ (x c : Nat), c < 2 ^ t → ∀ i, (2 ^ t * x + c).testBit i = if i < t then c.testBit i else x.testBit (i - t) := fun x c hc i => Nat.testBit_two_pow_mul_add x hc i
  have h0 : ∀ i, (2 ^ t * (2 * m + 1)).testBit i = if i < t then false else (2 * m + 1).testBit (i - t) := fun i => by
    have := hb (2 * m + 1) 0 ht i
    simpa using this
  have h2 : ∀ i, (2 ^ t * (2 * m)).testBit i = if i < t then false else (2 * m).testBit (i - t) := fun i => by
    have := hb (2 * m) 0 ht i
    simpa using this
  have hodd : ∀ j, (2 * m + 1).testBit j = if j = 0 then true else (2 * m).testBit j := fun j => by
    cases j with
    | zero => simp [Nat.testBit_zero]
    | succ j => rw [Nat.testBit_succ, Nat.testBit_succ, show (2 * m + 1) / 2 = m from by omega, show 2 * m / 2 = m from by omega]; simp
  have hev : (2 * m).testBit 0 = false := by simp [Nat.testBit_zero]
  constructor
  · apply Nat.eq_of_testBit_eq
    intro i
    rw [Nat.testBit_and, e1, hb _ _ (by omega), h0, h2]
    by_cases hi : i < t
    · simp [hi]
    · simp only [hi, if_false]
      rw [hodd]
      by_cases hj : i - t = 0
      · rw [hj, hev]; simp
      · simp [hj]
  · apply Nat.eq_of_testBit_eq
    intro i
    rw [Nat.testBit_xor, h0, h2, Nat.testBit_two_pow]
    by_cases hi : i < t
    · have : ¬ t = i := by omega
      simp [hi, this]
    · simp only [hi, if_false]
      rw [hodd]
      by_cases hj : i - t = 0
      · have : t = i := by omega
        rw [hj, hev]; simp [this]
      · have : ¬ t = i := by omega
        simp [hj, this]
/-- A number that is not 0 has a lowest bit. -/
theorem low_of (r : Nat) (h0 : r ≠ 0) (h : r < 4294967296) : Lib.ctz 32 r < 32 ∧ r &&& (r - 1) = r ^^^ 2 ^ Lib.ctz 32 r ∧ r ^^^ 2 ^ Lib.ctz 32 r < r := by
  obtain ⟨m, hm, hk⟩ := Lib.ctzFrom_spec 32 r (by omega) (by omega)
  have e : Lib.ctz 32 r = Lib.ctzFrom 32 r := by simp [Lib.ctz, h0]
  rw [e]
  generalize Lib.ctzFrom 32 r = t at *
  obtain ⟨h1, h2⟩ := low_off t m
  rw [← hm] at h1 h2
  refine ⟨hk, h1.trans h2, ?_⟩
  rw [← h2]
  have := Nat.two_pow_pos t
  rw [hm, Nat.mul_add, Nat.mul_one]
  omega
theorem two_pow_lt (j : Nat) (h : j < 32) : 2 ^ j < 4294967296 := Nat.lt_of_lt_of_le (Nat.pow_lt_pow_right (by decide) h) (by decide)
/-- The step of a map: the lowest bit's part is taken, and the bit. -/
theorem map_step (k r0 r a t : Nat) (h : a ^^^ stpN k r = stpN k r0) : (a ^^^ stpN k (2 ^ t)) ^^^ stpN k (r ^^^ 2 ^ t) = stpN k r0 := by
  rw [stpN_xor, Nat.xor_comm (stpN k r), Nat.xor_assoc, xor_twice]
  exact h
end Go.Proofs.YtjgoceebjmnjcaaDoor
