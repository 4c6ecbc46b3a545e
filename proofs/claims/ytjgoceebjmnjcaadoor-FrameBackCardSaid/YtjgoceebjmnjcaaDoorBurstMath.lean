/- Bits turned within 32 side by side turn the sum. Of no program. -/
import Derived.Test.YtjgoceebjmnjcaaDoorCrc
set_option linter.unusedVariables false
namespace Go.Proofs.YtjgoceebjmnjcaaDoor

theorem joinP (i c x : Nat) (hc : c < 2 ^ i) : c + 2 ^ i * x = c ^^^ (x * 2 ^ i) := by
  apply Nat.eq_of_testBit_eq
  intro j
  rw [Nat.testBit_xor, Nat.testBit_mul_two_pow, Nat.add_comm c, Nat.testBit_two_pow_mul_add x hc j]
  by_cases hi : j < i
  · have h8 : decide (i ≤ j) = false := by simp; omega
    rw [h8]
    simp [hi]
  · have : c.testBit j = false := Nat.testBit_lt_two_pow (Nat.lt_of_lt_of_le hc (Nat.pow_le_pow_right (n := 2) (by decide) (by omega : i ≤ j)))
    have h8 : i ≤ j := by omega
    simp [hi, this, h8]
theorem xor_mul (a b i : Nat) : (a ^^^ b) * 2 ^ i = (a * 2 ^ i) ^^^ (b * 2 ^ i) := by
  rw [← Nat.shiftLeft_eq, ← Nat.shiftLeft_eq, ← Nat.shiftLeft_eq, Nat.shiftLeft_xor_distrib]
theorem numL_cons (c : UInt8) (l : List UInt8) : numL (c :: l) = c.toNat ^^^ (numL l * 2 ^ 8) := by rw [numL, join8 _ _ c.toNat_lt]
theorem numL_set (l : List UInt8) : ∀ (k : Nat) (hk : k < l.length) (d : Nat) (c : UInt8), c.toNat = l[k].toNat ^^^ d → numL (l.set k c) = numL l ^^^ (d * 2 ^ (8 * k)) := by
  induction l with
  | nil => intro k hk; simp at hk
  | cons x l ih =>
    intro k hk d c hc
    cases k with
    | zero =>
      simp only [List.set_cons_zero, List.getElem_cons_zero] at hc ⊢
      rw [numL_cons, numL_cons, hc, Nat.mul_zero, Nat.pow_zero, Nat.mul_one, Nat.xor_assoc, Nat.xor_assoc, Nat.xor_comm d]
    | succ k =>
      simp only [List.set_cons_succ, List.getElem_cons_succ] at hc ⊢
      rw [numL_cons, numL_cons, ih k (by simpa using hk) d c hc, xor_mul, Nat.mul_assoc, ← Nat.pow_add, show 8 * k + 8 = 8 * (k + 1) from by omega, Nat.xor_assoc]
theorem bit_up (p i : Nat) : p % 2 ^ (i + 1) = (p % 2 ^ i) ^^^ ((p / 2 ^ i % 2) * 2 ^ i) := by
  rw [← joinP i _ _ (Nat.mod_lt _ (Nat.two_pow_pos i)), Nat.pow_succ, Nat.mod_mul]
theorem bit_flip (at' i : Nat) : 2 ^ ((at' + i) % 8) * 2 ^ (8 * ((at' + i) / 8)) = 2 ^ i * 2 ^ at' := by
  rw [← Nat.pow_add, ← Nat.pow_add]
  congr 1
  omega

/-- The text's bytes behind i of the pattern's bits. -/
def Turned (l L : List UInt8) (at' p i : Nat) : Prop := L.length = l.length ∧ numL L = numL l ^^^ (p % 2 ^ i * 2 ^ at')
theorem Turned.start (l : List UInt8) (at' p : Nat) : Turned l l at' p 0 := ⟨rfl, by simp [Nat.mod_one]⟩
theorem Turned.skip {l L : List UInt8} {at' p i : Nat} (h : Turned l L at' p i) (h0 : p / 2 ^ i % 2 = 0) : Turned l L at' p (i + 1) :=
  ⟨h.1, by rw [bit_up, h0, Nat.zero_mul, Nat.xor_zero]; exact h.2⟩
theorem Turned.flip {l L : List UInt8} {at' p i : Nat} (h : Turned l L at' p i) (h1 : p / 2 ^ i % 2 = 1) (hk : (at' + i) / 8 < L.length) (c : UInt8)
    (hc : c.toNat = L[(at' + i) / 8].toNat ^^^ 2 ^ ((at' + i) % 8)) : Turned l (L.set ((at' + i) / 8) c) at' p (i + 1) := by
  refine ⟨by rw [List.length_set]; exact h.1, ?_⟩
  rw [numL_set L _ hk _ c hc, bit_flip, h.2, bit_up, h1, Nat.one_mul, xor_mul, Nat.xor_assoc]
theorem burst_ne {l L : List UInt8} {at' p : Nat} (h : Turned l L at' p 32) (h0 : 1 ≤ p) (h1 : p ≤ 4294967295) (ha : at' ≤ 8 * l.length) : sumS L ≠ sumS l := by
  intro he
  obtain ⟨hl, hn⟩ := h
  have hp : p % 2 ^ 32 = p := Nat.mod_eq_of_lt (by omega)
  rw [hp] at hn
  unfold sumS addS at he
  have he2 := congrArg turn he
  rw [turn_turn, turn_turn, crc_num, crc_num, hl, hn, ← Nat.xor_assoc, stpN_xor _ _ (p * 2 ^ at')] at he2
  have e3 : stpN (8 * l.length) (p * 2 ^ at') = 0 := by
    have := congrArg (fun z => stpN (8 * l.length) (turn 0 ^^^ numL l) ^^^ z) he2
    simp only [xor_twice, Nat.xor_self] at this
    exact this
  rw [show 8 * l.length = at' + (8 * l.length - at') from by omega, stpN_add, stpN_shift] at e3
  exact stpN_pos _ p (by omega) (by omega) e3
end Go.Proofs.YtjgoceebjmnjcaaDoor
