/- A reader of bytes, as plain mathematics: what is left, and the first error (0: none). -/
import Derived.Test.YtfgimhgkjodcgaaDoorGen
set_option linter.unusedVariables false
namespace Go.Proofs.YtfgimhgkjodcgaaDoor
open Go.RowKit

/-- What is left, and the first error. -/
structure RS where
  l : List UInt8
  e : Int

/-- Behind an error nothing is left. -/
def RS.ok (s : RS) : Prop := s.e = 0 ∨ s.l = []

def rFail (s : RS) (e : Int) : RS := if s.e = 0 then ⟨[], e⟩ else s
def rByte (s : RS) : Int × RS :=
  match s.l with
  | [] => (0, rFail s 3)
  | c :: t => (c.toNat, ⟨t, 0⟩)
def rRaw (s : RS) (n : Int) : List UInt8 × RS :=
  if s.e ≠ 0 then ([], s) else if n < 0 then ([], ⟨[], 1⟩) else if (s.l.length : Int) < n then ([], ⟨[], 3⟩) else (s.l.take n.toNat, ⟨s.l.drop n.toNat, 0⟩)
/-- One byte of a number, the i-th: is the form bad there? -/
def rBad (i : Nat) (c : Int) : Bool := (c == 0 && decide (0 < i)) || (decide (63 < c) && i == 8)
def rCh (i : Nat) (b : Int × RS) : RS := if rBad i b.1 then rFail b.2 5 else b.2
def rNumF : Nat → Nat → Int → RS → Int × RS
  | 0, _, n, s => (n, s)
  | f + 1, i, n, s =>
    let b := rByte s
    if (rCh i b).e ≠ 0 then (0, rCh i b) else
      if b.1 < 128 then (n + b.1 % 128 * 128 ^ i, rCh i b) else rNumF f (i + 1) (n + b.1 % 128 * 128 ^ i) (rCh i b)
def rNum (s : RS) : Int × RS := rNumF 9 0 0 s
def rCount (s : RS) (most : Int) : Int × RS :=
  if most < (rNum s).1 then (0, rFail (rNum s).2 4) else if (rNum s).2.e ≠ 0 then (0, (rNum s).2) else rNum s
def rText (s : RS) (most : Int) : List UInt8 × RS :=
  rRaw (rCount s most).2 (rCount s most).1
def rEnd (s : RS) : RS := if s.l ≠ [] then rFail s 4 else s

theorem rFail_ok (s : RS) (e : Int) (h : s.ok) : (rFail s e).ok := by
  unfold rFail; split
  · exact .inr rfl
  · exact h
theorem rByte_ok (s : RS) (h : s.ok) : (rByte s).2.ok := by
  unfold rByte; split
  · exact rFail_ok s 3 h
  · exact .inl rfl
theorem rByte_range (s : RS) : 0 ≤ (rByte s).1 ∧ (rByte s).1 < 256 := by
  unfold rByte; split
  · simp
  · rename_i c t _; have := c.toNat_lt; simp; omega
theorem rRaw_ok (s : RS) (n : Int) (h : s.ok) : (rRaw s n).2.ok := by
  unfold rRaw; split
  · exact h
  · split
    · exact .inr rfl
    · split
      · exact .inr rfl
      · exact .inl rfl
theorem rCh_ok (i : Nat) (b : Int × RS) (h : b.2.ok) : (rCh i b).ok := by
  unfold rCh; split
  · exact rFail_ok _ _ h
  · exact h
theorem rNumF_ok (f i : Nat) (n : Int) (s : RS) (h : s.ok) : (rNumF f i n s).2.ok := by
  induction f generalizing i n s with
  | zero => exact h
  | succ f ih =>
    have h2 := rCh_ok i _ (rByte_ok s h)
    unfold rNumF
    simp only
    split
    · exact h2
    · split
      · exact h2
      · exact ih _ _ _ h2
theorem rNum_ok (s : RS) (h : s.ok) : (rNum s).2.ok := rNumF_ok _ _ _ _ h
theorem rCount_ok (s : RS) (most : Int) (h : s.ok) : (rCount s most).2.ok := by
  have := rNum_ok s h
  unfold rCount; split
  · exact rFail_ok _ _ this
  · split <;> exact this
theorem rText_ok (s : RS) (most : Int) (h : s.ok) : (rText s most).2.ok := rRaw_ok _ _ (rCount_ok s most h)
theorem rEnd_ok (s : RS) (h : s.ok) : (rEnd s).ok := by
  unfold rEnd; split
  · exact rFail_ok _ _ h
  · exact h

theorem rFail_err (s : RS) (e : Int) (h : e ≠ 0) : ((rFail s e).e != 0) = true := by
  unfold rFail; split <;> simp_all
theorem rRaw_neg (s : RS) (n : Int) (h : n < 0) : rRaw s n = ([], rFail s 1) := by
  unfold rRaw rFail; by_cases he : s.e = 0 <;> simp [he, h]
theorem rRaw_long (s : RS) (n : Int) (h : ¬ n < 0) (hl : (s.l.length : Int) < n) : rRaw s n = ([], rFail s 3) := by
  unfold rRaw rFail; by_cases he : s.e = 0 <;> simp [he, h, hl]
theorem rRaw_err (s : RS) (n : Int) (he : s.e ≠ 0) : rRaw s n = ([], s) := by
  unfold rRaw; simp [he]
theorem rRaw_all (s : RS) (n : Nat) (he : s.e = 0) (hl : n ≤ s.l.length) : rRaw s n = (s.l.take n, ⟨s.l.drop n, 0⟩) := by
  unfold rRaw; rw [if_neg (by simp [he]), if_neg (by omega), if_neg (by omega)]; simp

section
variable {f k : Nat} {n c : Int} {t t1 : RS} (h1 : (rByte t).1 = c) (h2 : (rByte t).2 = t1)
include h1 h2
theorem rNumF_bad (hb : rBad k c = true) : rNumF (f + 1) k n t = (0, rFail t1 5) := by
  subst h1; subst h2
  have e : rCh k (rByte t) = rFail (rByte t).2 5 := by unfold rCh; rw [if_pos hb]
  unfold rNumF; simp only [e]
  rw [if_pos (by have := rFail_err (rByte t).2 5 (by decide); simpa using this)]
theorem rNumF_err (hb : rBad k c = false) (he : t1.e ≠ 0) : rNumF (f + 1) k n t = (0, t1) := by
  subst h1; subst h2
  have e : rCh k (rByte t) = (rByte t).2 := by unfold rCh; rw [if_neg (by simp [hb])]
  unfold rNumF; simp only [e]
  rw [if_pos he]
theorem rNumF_end (hb : rBad k c = false) (he : t1.e = 0) (hc : c < 128) : rNumF (f + 1) k n t = (n + c % 128 * 128 ^ k, t1) := by
  subst h1; subst h2
  have e : rCh k (rByte t) = (rByte t).2 := by unfold rCh; rw [if_neg (by simp [hb])]
  unfold rNumF; simp only [e]
  rw [if_neg (by simp [he]), if_pos hc]
theorem rNumF_go (hb : rBad k c = false) (he : t1.e = 0) (hc : ¬ c < 128) : rNumF (f + 1) k n t = rNumF f (k + 1) (n + c % 128 * 128 ^ k) t1 := by
  subst h1; subst h2
  have e : rCh k (rByte t) = (rByte t).2 := by unfold rCh; rw [if_neg (by simp [hb])]
  rw [rNumF]; simp only [e]
  rw [if_neg (by simp [he]), if_neg hc]
end

theorem wrap64_small (n : Int) (h0 : 0 ≤ n) (h1 : n < 9223372036854775808) : wrap64 n = n := by unfold wrap64; omega
theorem numVal (n c k : Nat) (hn : n < 128 ^ k) (hk : k ≤ 8) (h8 : 8 ≤ k → c ≤ 63) :
    bits .or .i64 (n : Int) (wrap64 ((c : Int) % 128 * 2 ^ (7 * k))) = ((n + c % 128 * 128 ^ k : Nat) : Int) := by
  have hc : c % 128 < 128 := Nat.mod_lt _ (by decide)
  have h9 : k = 0 ∨ k = 1 ∨ k = 2 ∨ k = 3 ∨ k = 4 ∨ k = 5 ∨ k = 6 ∨ k = 7 ∨ k = 8 := by omega
  rcases h9 with rfl | rfl | rfl | rfl | rfl | rfl | rfl | rfl | rfl
  all_goals
    simp only [Nat.reducePow, Nat.reduceMul, Int.reducePow] at hn ⊢
    rw [wrap64_small _ (by omega) (by omega), i64_or_comm]
  · rw [i64_or_join 0 _ _ (by omega) (by omega) (by omega) (by omega) (by omega) (by omega)]; omega
  · rw [i64_or_join 7 _ _ (by omega) (by omega) (by omega) (by omega) (by omega) (by omega)]; omega
  · rw [i64_or_join 14 _ _ (by omega) (by omega) (by omega) (by omega) (by omega) (by omega)]; omega
  · rw [i64_or_join 21 _ _ (by omega) (by omega) (by omega) (by omega) (by omega) (by omega)]; omega
  · rw [i64_or_join 28 _ _ (by omega) (by omega) (by omega) (by omega) (by omega) (by omega)]; omega
  · rw [i64_or_join 35 _ _ (by omega) (by omega) (by omega) (by omega) (by omega) (by omega)]; omega
  · rw [i64_or_join 42 _ _ (by omega) (by omega) (by omega) (by omega) (by omega) (by omega)]; omega
  · rw [i64_or_join 49 _ _ (by omega) (by omega) (by omega) (by omega) (by omega) (by omega)]; omega
  · rw [i64_or_join 56 _ _ (by omega) (by omega) (by omega) (by omega) (by omega) (by omega)]; omega
theorem numVal_lt (n c k : Nat) (hn : n < 128 ^ k) : n + c % 128 * 128 ^ k < 128 ^ (k + 1) := by
  have hc : c % 128 < 128 := Nat.mod_lt _ (by decide)
  have h1 : c % 128 * 128 ^ k ≤ 127 * 128 ^ k := Nat.mul_le_mul_right _ (by omega)
  rw [Nat.pow_succ]; omega
theorem rBad_iff (k c : Nat) : rBad k (c : Int) = true ↔ (c ≤ 0 ∧ 0 < k) ∨ (63 < c ∧ k = 8) := by
  unfold rBad
  simp
  omega
end Go.Proofs.YtfgimhgkjodcgaaDoor
