/- The walk of the document's prime. -/
import Derived.Test.YtbiahhngeldhbaaMostW
set_option linter.unusedVariables false
namespace Go.Proofs.Ytbiahhngeldhbaa
open Go.RowKit

theorem prime_all : (List.range 312).all (fun n => decide (n < 2) || (decide (n ∈ PL) == (List.range 18).all (fun e => decide (e < 2) || decide (n < e * e) || decide (n % e ≠ 0)))) = true := by decide +kernel
theorem prime_at (n : Nat) (hn : n < 312) (h2 : 2 ≤ n) : decide (n ∈ PL) = (List.range 18).all (fun e => decide (e < 2) || decide (n < e * e) || decide (n % e ≠ 0)) := by
  have := all_lt 312 _ prime_all n hn
  rw [decide_eq_false (by omega : ¬ n < 2), Bool.false_or] at this
  exact beq_iff_eq.1 this
theorem small_root (n e : Nat) (hn : n < 312) (h : e * e ≤ n) : e < 18 := by
  rcases Nat.lt_or_ge e 18 with h1 | h1
  · exact h1
  · have := Nat.mul_le_mul h1 h1
    omega
theorem prime_yes (n : Nat) (hn : n < 312) (h2 : 2 ≤ n) (h : ∀ e, 2 ≤ e → e * e ≤ n → n % e ≠ 0) : n ∈ PL := by
  have e := prime_at n hn h2
  rw [List.all_eq_true.2] at e
  · exact of_decide_eq_true e
  · intro e _
    by_cases h1 : e < 2
    · simp [h1]
    · by_cases h3 : n < e * e
      · simp [h3]
      · simp [h e (by omega) (by omega)]
theorem prime_no (n e : Nat) (hn : n < 312) (h2 : 2 ≤ n) (he : 2 ≤ e) (hl : e * e ≤ n) (hd : n % e = 0) : n ∉ PL := by
  intro hm
  have q := prime_at n hn h2
  rw [decide_eq_true hm] at q
  have := List.all_eq_true.1 q.symm e (List.mem_range.2 (small_root n e hn hl))
  simp [hd] at this
  omega
/-- Nothing from 2 on below d divides n. -/
def NoDiv (n d : Nat) : Prop := ∀ e, 2 ≤ e → e < d → n % e ≠ 0
theorem NoDiv.next {n d : Nat} (h : NoDiv n d) (hd : n % d ≠ 0) : NoDiv n (d + 1) := by
  intro e h1 h2
  rcases Nat.lt_or_ge e d with h3 | h3
  · exact h e h1 h3
  · obtain rfl : e = d := by omega
    exact hd
theorem NoDiv.prime {n d : Nat} (h : NoDiv n d) (hn : n < 312) (h2 : 2 ≤ n) (hd : n < d * d) : n ∈ PL := by
  refine prime_yes n hn h2 fun e h1 h3 => h e h1 ?_
  rcases Nat.lt_or_ge e d with h4 | h4
  · exact h4
  · have := Nat.mul_le_mul h4 h4
    omega

set_option maxRecDepth 100000 in
set_option maxHeartbeats 1000000 in
theorem refPrime_any (n : Nat) (w : World) (hn : n < 312) (h2 : 2 ≤ n) :
    Calls Try.prog 32 #[.int .i64 n] w fun e w' => e = .returned (.bool (decide (n ∈ PL))) ∧ Below w.heap.size w w' := by
  have H0 := Lib.hid (show NoDiv n 2 from fun e h1 h3 => by omega)
  have HY := Lib.hid (fun d (h : NoDiv n d) hd => h.prime hn h2 hd)
  have HNO := Lib.hid (fun d he hl hd => prime_no n d hn h2 he hl hd)
  obtain ⟨B, hB⟩ : ∃ B, B = decide (n ∈ PL) := ⟨_, rfl⟩
  rw [← hB]
  have HB := Lib.hid hB
  clear hB
  go_enter Try.func32, Try.ntmps32
  go_wp2
  go_loopw [3] (fun i wr => ∃ d : Nat, 2 ≤ d ∧ d ≤ 18 ∧ i = .int .i64 d ∧ NoDiv n d ∧ Below w.heap.size w wr) (fun i _ => 400 - (intOf i).toNat)
  case atStart => exact ⟨2, Nat.le_refl _, by decide, rfl, H0.out, Below.refl _ _⟩
  case round =>
    obtain ⟨d, hd2, hd18, rfl, hnd, hbe⟩ := hrel
    have HND := Lib.hid hnd
    have HBE := Lib.hid hbe
    clear hnd hbe
    obtain ⟨q, hq⟩ : ∃ q, q = d * d := ⟨_, rfl⟩
    have hqb : q ≤ 324 := by
      have := Nat.mul_le_mul hd18 hd18
      omega
    have HQ := Lib.hid hq
    have WQ : IntKind.i64.wrap ((d : Int) * (d : Int)) = (q : Int) := by
      have e : ((d : Int) * (d : Int)) = (q : Int) := by rw [hq, Int.natCast_mul]
      rw [e, IntWalk.i64_in _ (by omega)]
    clear hq
    by_cases hle : q ≤ n
    · have hd17 : d < 18 := small_root n d hn (by rw [← HQ.out]; exact hle)
      have qi : (q : Int) ≤ (n : Int) := by omega
      obtain ⟨r, hr⟩ : ∃ r, r = n % d := ⟨_, rfl⟩
      have TM : Int.tmod (n : Int) (d : Int) = (r : Int) := by rw [hr]; rfl
      have d0 : ¬ ((d : Int) = 0) := by omega
      have hrb : r < 312 := by rw [hr]; exact Nat.lt_of_le_of_lt (Nat.mod_le _ _) hn
      have WR : IntKind.i64.wrap (r : Int) = (r : Int) := by rw [IntWalk.i64_in _ (by omega)]
      by_cases hz : r = 0
      · have HF : Hid (B = false) := Lib.hid (HB.out.trans (decide_eq_false (HNO.out d hd2 (by rw [← HQ.out]; exact hle) (by rw [← hr]; exact hz))))
        have z1 : ((r : Int) == 0) = true := by simp [hz]
        clear hr hz
        go_wp2
        go_ret
        exact ⟨ret_b HF.out.symm, HBE.out⟩
      · have HN2 := Lib.hid (HND.out.next (by rw [← hr]; exact hz))
        have z1 : ((r : Int) == 0) = false := by simp [hz]
        have z2 : ¬ ((r : Int) = 0) := by omega
        clear hr hz
        go_wp2
        go_roundw
        case rel => exact ⟨d + 1, by omega, by omega, rfl, HN2.out, HBE.out⟩
        case measure => simp [intOf]; omega
    · have HF : Hid (B = true) := Lib.hid (HB.out.trans (decide_eq_true (HY.out d HND.out (by rw [← HQ.out]; omega))))
      have qi : ¬ ((q : Int) ≤ (n : Int)) := by omega
      have n2 : (2 : Int) ≤ (n : Int) := by omega
      go_wp2
      go_ret
      exact ⟨ret_b HF.out.symm, HBE.out⟩
end Go.Proofs.Ytbiahhngeldhbaa
