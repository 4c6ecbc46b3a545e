/- The document's keep: Check. -/
import Derived.Test.YtiknfohadnjkiaaFrame
import Derived.Test.YtiknfohadnjkiaaKeepMath
import Derived.Test.YtiknfohadnjkiaaRowN
import Derived.Test.YtiknfohadnjkiaaRows
import Derived.BigQuiet
import Derived.Deep.Draws
import Derived.Deep.QuietTactic
import Derived.Laws.Bits128
import Derived.Laws.IdiomStrings
import Derived.Lib.AppendStr
import Derived.Lib.Hide
import Derived.Outline
import Derived.WalkKit
import Derived.WalkLawsBesides
import Derived.WalkSpells
set_option linter.unusedVariables false
namespace Go.Proofs.Ytiknfohadnjkiaa
open Go.RowKit

theorem chkG_app : ∀ (a pre b : List GenD), chkG pre a = 0 → chkG pre (a ++ b) = chkG (pre ++ a) b
  | [], pre, b, _ => by simp
  | x :: r, pre, b, h => by
    rw [chkG] at h
    by_cases c : badG pre x = 0
    · rw [if_neg (by simpa using c)] at h
      rw [List.cons_append, chkG, if_neg (by simpa using c), chkG_app r _ b h, List.append_assoc]
      rfl
    · rw [if_pos c] at h
      exact absurd h c
theorem chkG_take : ∀ (a pre : List GenD) (n : Nat), chkG pre a = 0 → chkG pre (a.take n) = 0
  | [], pre, n, _ => by simp [chkG]
  | x :: r, pre, 0, _ => rfl
  | x :: r, pre, n + 1, h => by
    rw [chkG] at h
    by_cases c : badG pre x = 0
    · rw [if_neg (by simpa using c)] at h
      rw [List.take_succ_cons, chkG, if_neg (by simpa using c)]
      exact chkG_take r _ n h
    · rw [if_pos c] at h
      exact absurd h c
theorem checkG_take {l : List GenD} (h : checkG l = 0) (n : Nat) : checkG (l.take n) = 0 := by
  unfold checkG at h ⊢
  split at h
  · cases h
  · rw [if_neg (by rw [List.length_take]; omega)]
    exact chkG_take l [] n h
/-- What the walk sees of the i-th, all ahead of it being right. -/
theorem chk_step {l : List GenD} {i : Nat} (hi : i < l.length) (h : chkG [] (l.take i) = 0) : (badG (l.take i) l[i] ≠ 0 → chkG [] l = badG (l.take i) l[i]) ∧ (badG (l.take i) l[i] = 0 → chkG [] (l.take (i + 1)) = 0) := by
  have e : l = l.take i ++ (l[i] :: l.drop (i + 1)) := by rw [← List.drop_eq_getElem_cons hi, List.take_append_drop]
  have e2 : l.take (i + 1) = l.take i ++ [l[i]] := by rw [List.take_succ_eq_append_getElem hi]
  constructor
  · intro hb
    have h2 := chkG_app (l.take i) [] (l[i] :: l.drop (i + 1)) h
    rw [← e, List.nil_append, chkG, if_pos hb] at h2
    exact h2
  · intro hb
    rw [e2, chkG_app _ _ _ h, List.nil_append, chkG, if_neg (by simpa using hb)]
    rfl
end Go.Proofs.Ytiknfohadnjkiaa
