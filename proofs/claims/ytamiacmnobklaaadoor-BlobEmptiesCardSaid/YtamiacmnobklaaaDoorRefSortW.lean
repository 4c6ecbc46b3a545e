/- The document's Files and Items (two lists that are one), and Sort. -/
import Derived.Test.YtamiacmnobklaaaDoorRowN
import Derived.Test.YtamiacmnobklaaaDoorRows
import Derived.Test.YtamiacmnobklaaaDoorTreeMath
import Derived.BigQuiet
import Derived.Deep.Cut
import Derived.Deep.CutRange
import Derived.Deep.DeepCutAuto
import Derived.Deep.Draws
import Derived.Deep.QuietTactic
import Derived.Deep.Slices
import Derived.Deep.Strs
import Derived.Laws.Bits128
import Derived.Laws.IdiomStrings
import Derived.Lib.AppendStr
import Derived.Lib.Hide
import Derived.Lib.SmallJoins
import Derived.OpenShut
import Derived.ProofKit
import Derived.ShutString
import Derived.SizedLaws
import Derived.SliceStrings
import Derived.WalkKit
import Derived.WalkLawsBesides
import Derived.WalkSpells
set_option linter.unusedVariables false
namespace Go.Proofs.YtamiacmnobklaaaDoor
open Go.RowKit

theorem ins_mem (x : FileD) : ∀ (l : List FileD) (y : FileD), y ∈ insS x l → y = x ∨ y ∈ l
  | [], y, h => by simp [insS] at h; exact .inl h
  | z :: r, y, h => by
    unfold insS at h
    split at h
    · simp at h ⊢; exact h
    · simp at h ⊢
      rcases h with h | h
      · exact .inr (.inl h)
      · rcases ins_mem x r y h with h | h
        · exact .inl h
        · exact .inr (.inr h)
theorem sort_mem' : ∀ (l acc : List FileD) (y : FileD), y ∈ l.foldl (fun acc x => insS x acc) acc → y ∈ acc ∨ y ∈ l
  | [], acc, y, h => .inl h
  | x :: r, acc, y, h => by
    rcases sort_mem' r (insS x acc) y h with h | h
    · rcases ins_mem x acc y h with h | h
      · exact .inr (by simp [h])
      · exact .inl h
    · exact .inr (by simp [h])
theorem sortS_snoc (l : List FileD) (x : FileD) : sortS (l ++ [x]) = insS x (sortS l) := by unfold sortS; rw [List.foldl_append]; rfl
theorem insS_len (x : FileD) : ∀ l : List FileD, (insS x l).length = l.length + 1
  | [] => rfl
  | y :: r => by
    unfold insS
    split
    · simp
    · simp [insS_len x r]
theorem sortS_len : ∀ n (l : List FileD), l.length = n → (sortS l).length = n := by
  intro n
  induction n with
  | zero => intro l h; rw [List.eq_nil_of_length_eq_zero h]; rfl
  | succ n ih =>
    intro l h
    obtain ⟨m, x, rfl⟩ : ∃ m x, l = m ++ [x] := by
      have hne : l ≠ [] := by intro e; rw [e] at h; simp at h
      exact ⟨l.dropLast, l.getLast hne, (List.dropLast_concat_getLast hne).symm⟩
    rw [sortS_snoc, insS_len, ih m (by simpa using h)]
theorem insS_at (x : FileD) (l : List FileD) (k : Nat) (h : k < l.length) : insS x (l.drop k) = if ordS x.path l[k].path < 0 then x :: l[k] :: l.drop (k + 1) else l[k] :: insS x (l.drop (k + 1)) := by
  rw [List.drop_eq_getElem_cons h]; rfl
theorem sort_mem {i : Nat} {xs : List FileD} (y : FileD) (h : y ∈ sortS (xs.take i)) : y ∈ xs := by
  rcases sort_mem' (xs.take i) [] y h with h | h
  · simp at h
  · exact List.mem_of_mem_take h
theorem info_file : (Tryd.prog.info? 49).map (fun i => (i.zero, i.size, i.bytes)) = some (some (.agg #[.string ByteArray.empty, .int .i64 0, .string ByteArray.empty]), 3, 40) := by kernel_rfl
end Go.Proofs.YtamiacmnobklaaaDoor
