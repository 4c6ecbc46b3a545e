/- Walks of highWord and behindPoint. -/
import Derived.Test.YtbiahhngeldhbaaRotW
import Derived.Test.YtbiahhngeldhbaaShelf
set_option linter.unusedVariables false
namespace Go.Proofs.Ytbiahhngeldhbaa
open Go.RowKit

theorem pow_lt37 (n k : Nat) (hn : n < 137438953472) (hk : k ≤ 2) : n ^ k / 18446744073709551616 < 1024 := by
  have h : n ^ k ≤ 137438953471 ^ 2 := Nat.le_trans (Nat.pow_le_pow_left (by omega) k) (Nat.pow_le_pow_right (by decide) hk)
  have : (137438953471 : Nat) ^ 2 = 18889465931203702456941841 - 0 ∨ True := .inr trivial
  exact Nat.lt_of_le_of_lt (Nat.div_le_div_right h) (by decide)
theorem pow_step (n k : Nat) : n ^ k / 18446744073709551616 * n + n ^ k % 18446744073709551616 * n / 18446744073709551616 = n ^ (k + 1) / 18446744073709551616 ∧ n ^ k % 18446744073709551616 * n % 18446744073709551616 = n ^ (k + 1) % 18446744073709551616 := by
  rw [Nat.pow_succ]
  generalize n ^ k = x
  have e : x * n = 18446744073709551616 * (x / 18446744073709551616 * n) + x % 18446744073709551616 * n := by
    conv => lhs; rw [← Nat.div_add_mod x 18446744073709551616]
    rw [Nat.add_mul, Nat.mul_assoc]
  rw [e]
  generalize x % 18446744073709551616 * n = y
  generalize x / 18446744073709551616 * n = z
  omega

set_option maxRecDepth 100000 in
set_option maxHeartbeats 1000000 in
theorem highWord_any (n p : Nat) (w : World) (hn : n < 137438953472) (hp : p ≤ 3) :
    Calls Try.prog 43 #[.int .u64 n, .int .i64 p] w fun e w' => e = .returned (.int .u64 ((n ^ p / 18446744073709551616 : Nat) : Int)) ∧ w = w' := by
  go_enter Try.func43, Try.ntmps43
  go_wp2
  go_loop [5, 6, 10] (fun h l i => ∃ k : Nat, k ≤ p ∧ i = .int .i64 k ∧ h = .int .u64 ((n ^ k / 18446744073709551616 : Nat) : Int) ∧ l = .int .u64 ((n ^ k % 18446744073709551616 : Nat) : Int)) (fun _ _ i => p - (intOf i).toNat)
  case atStart => exact ⟨0, by omega, rfl, by simp, by simp⟩
  case round =>
    obtain ⟨k, hk, rfl, rfl, rfl⟩ := hrel
    by_cases hlt : k < p
    · have b1 := pow_lt37 n k hn (by omega)
      have hx : n ^ k % 18446744073709551616 < 18446744073709551616 := Nat.mod_lt _ (by decide)
      obtain ⟨s1, s2⟩ := pow_step n k
      have C := Lib.hid (fun w' => Try.bits_Mul64 (n ^ k % 18446744073709551616) n hx (by omega) w')
      have b2 : n ^ k % 18446744073709551616 * n / 18446744073709551616 < 137438953472 := by
        refine Nat.div_lt_of_lt_mul ?_
        exact Nat.mul_lt_mul_of_lt_of_le hx (Nat.le_of_lt hn) (by decide)
      have b3 : n ^ k / 18446744073709551616 * n < 140737488355328 := by
        exact Nat.mul_lt_mul_of_lt_of_le b1 (Nat.le_of_lt hn) (by decide)
      generalize n ^ k / 18446744073709551616 = hi at *
      generalize n ^ k % 18446744073709551616 = lo at *
      generalize lo * n / 18446744073709551616 = ov at *
      obtain ⟨pr, hpr⟩ : ∃ pr, hi * n = pr := ⟨_, rfl⟩
      rw [hpr] at s1 b3
      obtain ⟨lw, hlw⟩ : ∃ lw, lo * n % 18446744073709551616 = lw := ⟨_, rfl⟩
      rw [hlw] at s2
      have C : Hid (∀ w', Calls Try.prog 48 #[.int .u64 lo, .int .u64 n] w' fun e w'' => e = .returned (.tuple #[.int .u64 (ov : Int), .int .u64 (lw : Int)]) ∧ w'' = w') := Lib.hid (by rw [← hlw]; exact C.out)
      clear hlw
      have hpr2 : (hi : Int) * (n : Int) = (pr : Int) := by rw [← hpr]; exact (Int.natCast_mul hi n).symm
      have S1 := Lib.hid s1
      have S2 := Lib.hid s2
      clear s1 s2 hpr
      go_wp2_with fail
      refine (C.out _).mono ?_
      rintro e w' ⟨rfl, rfl⟩
      go_wp2
      go_round
      case rel => exact ⟨k + 1, by omega, by go_num, by rw [← S1.out]; go_num, by rw [← S2.out]⟩
      case measure => simp [intOf]; omega
    · obtain rfl : k = p := by omega
      go_wp2
      go_ret
      exact ⟨rfl, rfl⟩

theorem highWord_of (n p h : Nat) (w : World) (hn : n < 137438953472) (hp : p ≤ 3) (hh : n ^ p / 18446744073709551616 = h) :
    Calls Try.prog 43 #[.int .u64 n, .int .i64 p] w fun e w' => e = .returned (.int .u64 (h : Int)) ∧ w = w' := by
  subst hh; exact highWord_any n p w hn hp
/-- Equal numbers, so that no tactic looks into them. -/
structure SameN (a b : Nat) : Prop where
  eq : a = b
/-- The root, bit by bit: e bits are still to be tried. -/
def bpR (n p : Nat) : Nat → Nat → Nat
  | 0, r => r
  | e + 1, r => bpR n p e (if (r ||| 2 ^ e) ^ p / 18446744073709551616 < n * 2 ^ (32 * p - 64) then r ||| 2 ^ e else r)
def bp (n p : Nat) : Nat := bpR n p 37 0 % 4294967296
theorem bp_lt (n p : Nat) : bp n p < 4294967296 := Nat.mod_lt _ (by decide)

set_option maxRecDepth 100000 in
set_option maxHeartbeats 1000000 in
theorem behindPoint_any (n p : Nat) (w : World) (hn : n < 512) (hp : p = 2 ∨ p = 3) :
    Calls Try.prog 37 #[.int .u64 n, .int .i64 p] w fun e w' => e = .returned (.int .u32 (bp n p : Nat)) ∧ ∃ m, w' = w.drewN m := by
  obtain ⟨q, hq⟩ : ∃ q, q = 32 * p - 64 := ⟨_, rfl⟩
  have hqp : 32 * p = q + 64 := by omega
  have hq32 : q ≤ 32 := by omega
  have hM : n * 2 ^ q < 2199023255552 := by
    have : n * 2 ^ q ≤ n * 2 ^ 32 := Nat.mul_le_mul_left _ (Nat.pow_le_pow_right (by decide) hq32)
    omega
  obtain ⟨M, hMM⟩ : ∃ M, n * 2 ^ q = M := ⟨_, rfl⟩
  have hp3 : p ≤ 3 := by omega
  have HMM := Lib.hid hMM
  have HQ := Lib.hid hq
  clear hq hMM
  go_enter Try.func37, Try.ntmps37
  go_wp2
  go_loopw [5, 6] (fun r b wr => ∃ (e x y m : Nat), e ≤ 37 ∧ r = .int .u64 x ∧ b = .int .u64 y ∧ y = 2 ^ e / 2 ∧ x < 137438953472 ∧ SameN (bpR n p e x) (bpR n p 37 0) ∧ wr = w.drewN m) (fun _ b _ => (intOf b).toNat)
  case atStart => exact ⟨37, 0, 68719476736, 0, by omega, rfl, rfl, by decide, by decide, ⟨rfl⟩, rfl⟩
  case round =>
    obtain ⟨e, x, y, m, he, rfl, rfl, hy, hx, hb, rfl⟩ := hrel
    have HB := Lib.hid hb; clear hb
    rcases e with _ | e
    · obtain rfl : y = 0 := by simpa using hy
      have FIN := Lib.hid (show (x : Int) % 4294967296 = ((bp n p : Nat) : Int) by unfold bp; rw [← HB.out.eq]; show _ = ((x % 4294967296 : Nat) : Int); omega)
      clear hy
      rw [show ((0 : Nat) : Int) = 0 from rfl]
      go_wp2
      go_ret
      exact ⟨ret_u32 FIN.out, _, rfl⟩
    · have hy2 : y = 2 ^ e := by rw [hy, Nat.pow_succ]; omega
      have hylt : y < 137438953472 := by rw [hy2]; exact Nat.lt_of_lt_of_le (Nat.pow_lt_pow_right (by decide) (show e < 37 by omega)) (by decide)
      have hypos : 0 < y := by rw [hy2]; exact Nat.two_pow_pos e
      have hor : x ||| y < 137438953472 := Nat.or_lt_two_pow (n := 37) hx hylt
      have e1 := u64_or_nat x y (by omega) (by omega)
      have HS : Hid (bpR n p (e + 1) x = bpR n p e (if (x ||| y) ^ p / 18446744073709551616 < M then x ||| y else x)) := Lib.hid (by rw [bpR, ← HQ.out, HMM.out, ← hy2])
      have HY := Lib.hid hy2
      have hb2 := HS.out.symm.trans HB.out.eq
      have NY : Hid (y / 2 = 2 ^ e / 2) := Lib.hid (by rw [hy2])
      obtain ⟨o, ho⟩ : ∃ o, x ||| y = o := ⟨_, rfl⟩
      rw [ho] at hor e1 hb2
      obtain ⟨hw, hhw⟩ : ∃ h, o ^ p / 18446744073709551616 = h := ⟨_, rfl⟩
      rw [hhw] at hb2
      have HB2 := Lib.hid (SameN.mk hb2)
      clear hb2
      have C := fun w' => Lib.hid (highWord_of o p hw w' hor hp3 hhw)
      have w1 : IntKind.i64.wrap (32 * (p : Int)) = ((q + 64 : Nat) : Int) := by rw [IntWalk.i64_in _ (by omega)]; omega
      clear hy hy2 ho hhw HS HB
      generalize hw5 : w.drewN m = w5 at *
      have HW5 := Lib.hid hw5; clear hw5
      have SH : IntKind.u64.wrap ((n : Int) * 2 ^ q) = (M : Int) := by
        rw [show (n : Int) * 2 ^ q = ((n * 2 ^ q : Nat) : Int) by rw [Int.natCast_mul, Int.natCast_pow]; rfl, HMM.out, IntKind.wrap_u64]
        have := HMM.out
        omega
      by_cases hc : hw < M
      · have HB3 := HB2.out
        rw [if_pos hc] at HB3
        have hcI : (hw : Int) < (M : Int) := by omega
        have HB4 := Lib.hid HB3
        clear HB3 HB2 hM
        go_wp2
        go_quiet ((go_at_call 43; (with_reducible exact quiet_left (C _).out)))
        go_wp2
        go_roundw
        case rel => exact ⟨e, o, y / 2, m + nq, by omega, rfl, by go_num, NY.out, hor, HB4.out, by rw [← HW5.out, World.drewN_drewN]⟩
        case measure => simp [intOf]; omega
      · have HB3 := HB2.out
        rw [if_neg hc] at HB3
        have hcI : ¬ (hw : Int) < (M : Int) := by omega
        have HB4 := Lib.hid HB3
        clear HB3 HB2 hM
        go_wp2
        go_quiet ((go_at_call 43; (with_reducible exact quiet_left (C _).out)))
        go_wp2
        go_roundw
        case rel => exact ⟨e, x, y / 2, m + nq, by omega, rfl, by go_num, NY.out, hx, HB4.out, by rw [← HW5.out, World.drewN_drewN]⟩
        case measure => simp [intOf]; omega
end Go.Proofs.Ytbiahhngeldhbaa
