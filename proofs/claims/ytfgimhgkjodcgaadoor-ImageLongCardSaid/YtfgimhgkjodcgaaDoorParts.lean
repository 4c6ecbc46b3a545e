/- Lists of numbers and of texts: read. (Written by gen/parts.py.) -/
import Derived.Test.YtfgimhgkjodcgaaDoorCodeMath
import Derived.Test.YtfgimhgkjodcgaaDoorGen
import Derived.Test.YtfgimhgkjodcgaaDoorOwnL
import Derived.Test.YtfgimhgkjodcgaaDoorReadMath
import Derived.Test.YtfgimhgkjodcgaaDoorRoundTrip
import Derived.Test.YtfgimhgkjodcgaaDoorRows
import Derived.BigQuiet
import Derived.Lib.Hide
import Derived.OpenShut
import Derived.ProofKit
import Derived.ShutString
import Derived.SizedLaws
import Derived.SliceStrings
import Derived.WalkKit
import Derived.WalkLawsBesides
import Derived.WalkSpells
set_option linter.unusedVariables false
namespace Go.Proofs.YtfgimhgkjodcgaaDoor
open Go.RowKit

/-! ### Plain mathematics -/
theorem rNum_of_err (s : RS) (h : s.ok) (he : s.e ≠ 0) : rNum s = (0, s) := by
  have hl : s.l = [] := by
    rcases h with h | h
    · exact absurd h he
    · exact h
  have b : rByte s = (0, s) := by unfold rByte; rw [hl]; simp [rFail, he]
  have b1 : (rByte s).1 = ((0 : Nat) : Int) := by rw [b]; rfl
  have b2 : (rByte s).2 = s := by rw [b]
  exact rNumF_err b1 b2 (by rw [← Bool.not_eq_true, rBad_iff]; omega) he
theorem rNum_e (s : RS) (h : s.ok) (he : (rNum s).2.e = 0) : s.e = 0 := by
  by_cases h0 : s.e = 0
  · exact h0
  · rw [rNum_of_err s h h0] at he; exact he
theorem rNum_split (s : RS) (h : s.ok) (he : (rNum s).2.e = 0) : ∃ q : Nat, q ≤ 4611686018427387903 ∧ (rNum s).1 = (q : Int) ∧ s.l = nb q ++ (rNum s).2.l := by
  have h0 := rNum_e s h he
  obtain ⟨l, e⟩ := s
  simp only at h0
  subst h0
  exact rNum_back l he
theorem rCount_cases (s : RS) (most : Int) (h : s.ok) :
    ((rCount s most).1 = 0 ∧ (rCount s most).2.e ≠ 0) ∨ ((rCount s most).2.e = 0 ∧ rCount s most = rNum s ∧ (rNum s).1 ≤ most) := by
  unfold rCount
  split
  · exact .inl ⟨rfl, rFail_e _ _ (by decide)⟩
  · split
    · rename_i h2; exact .inl ⟨rfl, h2⟩
    · rename_i h1 h2
      exact .inr ⟨by simpa using h2, rfl, by omega⟩
theorem rCount_nat (s : RS) (most : Int) (h : s.ok) : ∃ c : Nat, (rCount s most).1 = (c : Int) ∧ c ≤ 4611686018427387903 ∧ ((rCount s most).2.e ≠ 0 → c = 0) := by
  rcases rCount_cases s most h with ⟨h1, h2⟩ | ⟨h1, h2, h3⟩
  · exact ⟨0, h1, by decide, fun _ => rfl⟩
  · rw [h2] at h1 ⊢
    obtain ⟨q, hq, hv, _⟩ := rNum_split s h h1
    exact ⟨q, hv, hq, fun h => absurd h1 h⟩
theorem rNum_less (s : RS) (h : s.ok) (he : (rNum s).2.e = 0) : (rNum s).2.l.length + 1 ≤ s.l.length := by
  obtain ⟨q, _, _, hs⟩ := rNum_split s h he
  have := (nb_length q).1
  rw [hs, List.length_append]
  omega
theorem rCount_less (s : RS) (most : Int) (h : s.ok) (he : (rCount s most).2.e = 0) : (rCount s most).2.l.length + 1 ≤ s.l.length := by
  rcases rCount_cases s most h with ⟨h1, h2⟩ | ⟨h1, h2, h3⟩
  · exact absurd he h2
  · rw [h2] at he ⊢; exact rNum_less s h he
theorem rRaw_e (s : RS) (n : Int) (he : (rRaw s n).2.e = 0) : s.e = 0 ∧ 0 ≤ n ∧ n ≤ s.l.length ∧ rRaw s n = (s.l.take n.toNat, ⟨s.l.drop n.toNat, 0⟩) := by
  unfold rRaw at he ⊢
  by_cases h0 : s.e = 0
  · rw [if_neg (by simp [h0])] at he ⊢
    by_cases h1 : n < 0
    · rw [if_pos h1] at he; exact absurd he (by decide)
    · rw [if_neg h1] at he ⊢
      by_cases h2 : (s.l.length : Int) < n
      · rw [if_pos h2] at he; exact absurd he (by decide)
      · rw [if_neg h2]; exact ⟨h0, by omega, by omega, rfl⟩
  · rw [if_pos h0] at he; exact absurd he h0
theorem rText_less (s : RS) (most : Int) (h : s.ok) (he : (rText s most).2.e = 0) : (rText s most).2.l.length + 1 ≤ s.l.length := by
  unfold rText at he ⊢
  obtain ⟨h0, _, _, hr⟩ := rRaw_e _ _ he
  have := rCount_less s most h h0
  rw [hr]
  simp only [List.length_drop]
  omega

def rLoop {α : Type} (next : RS → α × RS) : Nat → List α → RS → List α × RS
  | 0, acc, s => (acc, s)
  | k + 1, acc, s => if (next s).2.e = 0 then rLoop next k (acc ++ [(next s).1]) (next s).2 else ([], (next s).2)
def rParts {α : Type} (next : RS → α × RS) (s : RS) (most : Int) : List α × RS := rLoop next (rCount s most).1.toNat [] (rCount s most).2
theorem rLoop_ok {α : Type} (next : RS → α × RS) (hn : ∀ s, s.ok → (next s).2.ok) (k : Nat) : ∀ (acc : List α) (s : RS), s.ok → (rLoop next k acc s).2.ok := by
  induction k with
  | zero => intro acc s h; exact h
  | succ k ih =>
    intro acc s h
    unfold rLoop; split
    · exact ih _ _ (hn s h)
    · exact hn s h
theorem rParts_ok {α : Type} (next : RS → α × RS) (hn : ∀ s, s.ok → (next s).2.ok) (s : RS) (most : Int) (h : s.ok) : (rParts next s most).2.ok := rLoop_ok next hn _ _ _ (rCount_ok s most h)

/-- What a call may write that reads on and makes a list: the reader's block, and new ones. -/
abbrev OrNew (g B : Nat) : Nat → Prop := fun k => k = g ∨ B ≤ k






end Go.Proofs.YtfgimhgkjodcgaaDoor
