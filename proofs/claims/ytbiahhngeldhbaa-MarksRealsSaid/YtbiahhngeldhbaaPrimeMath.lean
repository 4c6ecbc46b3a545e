/- The first 64 primes, and how a search finds them. Of no program. -/
set_option linter.unusedVariables false
namespace Go.Proofs.Ytbiahhngeldhbaa

def PL : List Nat := [2, 3, 5, 7, 11, 13, 17, 19, 23, 29, 31, 37, 41, 43, 47, 53, 59, 61, 67, 71, 73, 79, 83, 89, 97, 101, 103, 107, 109, 113, 127, 131, 137, 139, 149, 151, 157, 163, 167, 173, 179, 181, 191, 193, 197, 199, 211, 223, 227, 229, 233, 239, 241, 251, 257, 263, 269, 271, 277, 281, 283, 293, 307, 311]
def pr (i : Nat) : Nat := PL.getD i 0
/-- How many of them lie below n. -/
def cntP (n : Nat) : Nat := (PL.filter (· < n)).length
theorem PL_length : PL.length = 64 := by decide
theorem cntP_all : cntP 312 = 64 := by decide +kernel
theorem cntP_two : cntP 2 = 0 := by decide +kernel
theorem all_lt (N : Nat) (p : Nat → Bool) (h : (List.range N).all p = true) (n : Nat) (hn : n < N) : p n = true := List.all_eq_true.1 h n (List.mem_range.2 hn)
theorem cntP_le (n : Nat) : cntP n ≤ 64 := by unfold cntP; have := List.length_filter_le (· < n) PL; rw [PL_length] at this; exact this
theorem cntP_lt (n : Nat) (hn : n < 312) (h2 : 2 ≤ n) : cntP n < 64 := by
  have := all_lt 312 (fun n => decide (2 ≤ n → cntP n < 64)) (by decide +kernel) n hn
  simpa using (of_decide_eq_true this) h2
theorem pr_new (n : Nat) (hn : n < 312) (h : n ∈ PL) : cntP (n + 1) = cntP n + 1 ∧ pr (cntP n) = n := by
  have := all_lt 312 (fun n => decide (n ∈ PL → cntP (n + 1) = cntP n + 1 ∧ pr (cntP n) = n)) (by decide +kernel) n hn
  exact (of_decide_eq_true this) h
theorem pr_old (n : Nat) (hn : n < 312) (h : n ∉ PL) : cntP (n + 1) = cntP n := by
  have := all_lt 312 (fun n => decide (n ∉ PL → cntP (n + 1) = cntP n)) (by decide +kernel) n hn
  exact (of_decide_eq_true this) h
theorem pr_div (n : Nat) (hn : n < 312) (h2 : 2 ≤ n) (h : n ∉ PL) : ∃ j, j < cntP n ∧ pr j * pr j ≤ n ∧ n % pr j = 0 := by
  have := all_lt 312 (fun n => decide (2 ≤ n → n ∉ PL → (List.range 7).any (fun j => decide (j < cntP n ∧ pr j * pr j ≤ n ∧ n % pr j = 0)) = true)) (by decide +kernel) n hn
  have h3 := (of_decide_eq_true this) h2 h
  obtain ⟨j, _, hj⟩ := List.any_eq_true.1 h3
  exact ⟨j, of_decide_eq_true hj⟩
theorem pr_mono (i j : Nat) (h : i ≤ j) (hj : j < 64) : pr i ≤ pr j := by
  have := all_lt 64 (fun j => (List.range 64).all fun i => decide (i ≤ j → pr i ≤ pr j)) (by decide +kernel) j hj
  have h2 := all_lt 64 _ this i (by omega)
  exact (of_decide_eq_true h2) h
theorem pr_ndiv (n : Nat) (hn : n < 312) (h : n ∈ PL) (i : Nat) (hi : i < cntP n) : n % pr i ≠ 0 := by
  have hi64 : i < 64 := Nat.lt_of_lt_of_le hi (cntP_le n)
  have := all_lt 312 (fun n => decide (n ∈ PL → (List.range 64).all (fun i => decide (i < cntP n → n % pr i ≠ 0)) = true)) (by decide +kernel) n hn
  have h2 := all_lt 64 _ ((of_decide_eq_true this) h) i hi64
  exact (of_decide_eq_true h2) hi
theorem pr_bound (i : Nat) (h : i < 64) : 2 ≤ pr i ∧ pr i < 312 := by
  have := all_lt 64 (fun i => decide (2 ≤ pr i ∧ pr i < 312)) (by decide +kernel) i h
  exact of_decide_eq_true this
/-- Nothing tried so far divides n. -/
def Tried (n i : Nat) : Prop := ∀ j, j < i → pr j * pr j ≤ n ∧ n % pr j ≠ 0
theorem Tried.zero (n : Nat) : Tried n 0 := fun j h => absurd h (Nat.not_lt_zero _)
theorem Tried.next {n i : Nat} (h : Tried n i) (h1 : pr i * pr i ≤ n) (h2 : n % pr i ≠ 0) : Tried n (i + 1) := by
  intro j hj
  by_cases e : j = i
  · subst e; exact ⟨h1, h2⟩
  · exact h j (by omega)
theorem tried_prime (n i : Nat) (hn : n < 312) (h2 : 2 ≤ n) (h : Tried n i) (hi : i = cntP n ∨ n < pr i * pr i) (hic : i ≤ cntP n) : n ∈ PL := by
  apply Classical.byContradiction
  intro hno
  obtain ⟨j, hj, hjj, hjd⟩ := pr_div n hn h2 hno
  by_cases hji : j < i
  · exact (h j hji).2 hjd
  · rcases hi with hi | hi
    · omega
    · have hm := pr_mono i j (by omega) (Nat.lt_of_lt_of_le hj (cntP_le n))
      have := Nat.mul_le_mul hm hm
      omega
theorem take_pr (f : Nat) (h : f < 64) : PL.take (f + 1) = PL.take f ++ [pr f] := by
  rw [List.take_succ_eq_append_getElem (by rw [PL_length]; exact h)]
  congr 2
  unfold pr
  simp [List.getD_eq_getElem?_getD, PL_length, h]
end Go.Proofs.Ytbiahhngeldhbaa
