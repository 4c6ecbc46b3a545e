/- Landed chunk: count. -/
import Derived.Test.YtiknfohadnjkiaaChunkMath
import Derived.Test.YtiknfohadnjkiaaChunkMoreM
import Derived.Test.YtiknfohadnjkiaaLandBox1W
import Derived.Test.YtiknfohadnjkiaaRefBoxW
import Derived.Test.YtiknfohadnjkiaaRowN
import Derived.Test.YtiknfohadnjkiaaRows
import Derived.BigQuiet
import Derived.Deep.Draws
import Derived.Deep.QuietTactic
import Derived.Deep.RegionHeld3
import Derived.Laws.Bits128
import Derived.Laws.IdiomStrings
import Derived.Laws.OwnMore
import Derived.Laws.ResultCell
import Derived.Lib.AppendStr
import Derived.Lib.Hide
import Derived.OpenShut
import Derived.Outline
import Derived.ProofKit
import Derived.ShutString
import Derived.SizedLaws
import Derived.SliceStrings
import Derived.WalkKit
import Derived.WalkLawsBesides
import Derived.WalkSpells
set_option linter.unusedVariables false
namespace Go.Proofs.Ytiknfohadnjkiaa
open Go.RowKit

theorem count_nat {s : List UInt8} {n : Nat} (hn : 0 < n) : (cutL n s).length = s.length / n + if 0 < s.length % n ∨ s.length = 0 then 1 else 0 := by
  rw [cutL_length _ n s hn (Nat.le_refl _)]
  generalize s.length = l
  by_cases hl : l = 0
  · subst hl
    simp
  · have h1 := Nat.div_add_mod l n
    have h2 := Nat.mod_lt l hn
    have h3 := Nat.div_add_mod (l - 1) n
    have h4 := Nat.mod_lt (l - 1) hn
    by_cases hm : 0 < l % n
    · rw [if_pos (.inl hm)]
      have e : l - 1 = (l % n - 1) + n * (l / n) := by omega
      have : (l - 1) / n = l / n := by
        rw [e, Nat.add_mul_div_left _ _ hn, Nat.div_eq_of_lt (by omega), Nat.zero_add]
      omega
    · rw [if_neg (by omega)]
      have hq : 0 < l / n := by
        rcases Nat.eq_zero_or_pos (l / n) with c | c
        · rw [c, Nat.mul_zero] at h1; omega
        · exact c
      obtain ⟨q, hqq⟩ : ∃ q, l / n = q + 1 := ⟨l / n - 1, by omega⟩
      rw [hqq, Nat.mul_succ] at h1
      have e : l - 1 = (n - 1) + n * q := by omega
      have : (l - 1) / n = q := by
        rw [e, Nat.add_mul_div_left _ _ hn, Nat.div_eq_of_lt (by omega), Nat.zero_add]
      omega
set_option maxRecDepth 100000 in
set_option maxHeartbeats 2000000 in
theorem count13_any (s : List UInt8) (n : Nat) (w : World) (hn : 0 < n) (hn2 : n ≤ 9223372036854775807) (hs : s.length ≤ 524288) : Calls Try.prog 23 #[.int .i64 (s.length : Nat), .int .i64 (n : Nat)] w fun e w' => e = .returned (.int .i64 ((cutL n s).length : Nat)) ∧ w = w' := by
  have HC := Lib.hid (count_nat (s := s) hn)
  have hd : s.length / n ≤ s.length := Nat.div_le_self _ _
  generalize (cutL n s).length = r at *
  generalize s.length = l at *
  have z0 : ((n : Int) == 0) = false := by rw [beq_eq_false_iff_ne]; omega
  have t1 : ((l : Int)).tdiv (n : Int) = ((l / n : Nat) : Int) := (Int.ofNat_tdiv l n).symm
  have t2 : ((l : Int)).tmod (n : Int) = ((l % n : Nat) : Int) := (Int.ofNat_tmod l n).symm
  have t3 : ((l : Int)) / (n : Int) = ((l / n : Nat) : Int) := rfl
  have t4 : ((l : Int)) % (n : Int) = ((l % n : Nat) : Int) := rfl
  have n1 : 0 < l % n ↔ (0 : Int) < ((l % n : Nat) : Int) := by omega
  generalize l / n = q at *
  generalize l % n = m at *
  have u1 : wrap64 (q : Int) = (q : Int) := IntWalk.wrap64_in _ (by omega)
  have u2 : wrap64 ((q : Int) + 1) = (q : Int) + 1 := IntWalk.wrap64_in _ (by omega)
  by_cases c1 : 0 < m
  · have j1 : (0 : Int) < (m : Int) := by omega
    have HR := Lib.hid (show r = q + 1 by rw [HC.out, if_pos (.inl c1)])
    have m1 : decide ((0 : Int) < (m : Int)) = true := decide_eq_true j1
    clear n1 c1
    go_enter Try.func23, Try.ntmps23
    go_wp2_with fail
    go_ret
    exact ⟨by rw [HR.out]; rfl, rfl⟩
  · have j1 : ¬ (0 : Int) < (m : Int) := by omega
    have m1 : decide ((0 : Int) < (m : Int)) = false := decide_eq_false j1
    by_cases c2 : l = 0
    · have HR := Lib.hid (show r = q + 1 by rw [HC.out, if_pos (.inr c2)])
      have m2 : ((l : Int) == 0) = true := by rw [beq_iff_eq]; omega
      clear n1 c1 c2
      go_enter Try.func23, Try.ntmps23
      go_wp2_with fail
      go_ret
      exact ⟨by rw [HR.out]; rfl, rfl⟩
    · have HR := Lib.hid (show r = q by rw [HC.out, if_neg (by omega)]; rfl)
      have m2 : ((l : Int) == 0) = false := by rw [beq_eq_false_iff_ne]; omega
      clear n1 c1 c2
      go_enter Try.func23, Try.ntmps23
      go_wp2_with fail
      go_ret
      exact ⟨by rw [HR.out]; rfl, rfl⟩
end Go.Proofs.Ytiknfohadnjkiaa
