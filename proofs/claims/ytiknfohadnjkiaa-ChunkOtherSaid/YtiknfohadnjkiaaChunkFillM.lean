/- A box that is being filled with the pieces of one text: mathematics. -/
import Derived.Test.YtiknfohadnjkiaaChunkBoxM
import Derived.Test.YtiknfohadnjkiaaChunkMath
import Derived.Test.YtiknfohadnjkiaaFrame
import Derived.Test.YtiknfohadnjkiaaGen
import Derived.Test.YtiknfohadnjkiaaOwnL
import Derived.Test.YtiknfohadnjkiaaRefBoxW
import Derived.Test.YtiknfohadnjkiaaRowN
import Derived.Test.YtiknfohadnjkiaaRows
import Derived.BigQuiet
import Derived.Deep.QuietTactic
import Derived.Deep.RegionHeld3
import Derived.Laws.ResultCell
import Derived.Lib.Hide
import Derived.Outline
import Derived.WalkKit
import Derived.WalkLawsBesides
import Derived.WalkSpells
set_option linter.unusedVariables false
namespace Go.Proofs.Ytiknfohadnjkiaa
open Go.RowKit

/-- Each place is empty or has its own piece. -/
def FillB : List (List UInt8) → BoxS → Prop
  | [], [] => True
  | t :: l, o :: st => (o = none ∨ o = some t) ∧ FillB l st
  | _, _ => False
theorem FillB.len : ∀ {l : List (List UInt8)} {st : BoxS}, FillB l st → st.length = l.length
  | [], [], _ => rfl
  | t :: l, o :: st, h => by rw [List.length_cons, List.length_cons, FillB.len h.2]
  | [], o :: st, h => by simp [FillB] at h
  | t :: l, [], h => by simp [FillB] at h
theorem FillB.start : ∀ (l : List (List UInt8)), FillB l (List.replicate l.length none)
  | [] => by simp [FillB]
  | t :: l => by rw [List.length_cons, List.replicate_succ]; exact ⟨.inl rfl, FillB.start l⟩
theorem FillB.bound : ∀ {l : List (List UInt8)} {st : BoxS}, FillB l st → (allB st).length ≤ l.flatten.length
  | [], [], _ => Nat.le_refl _
  | t :: l, o :: st, h => by
    have ih := FillB.bound h.2
    have e : allB (o :: st) = o.getD [] ++ allB st := by unfold allB; rw [List.map_cons, List.flatten_cons]
    rw [e, List.flatten_cons, List.length_append, List.length_append]
    rcases h.1 with k | k
    · rw [k]; simp only [Option.getD_none, List.length_nil]; omega
    · rw [k]; simp only [Option.getD_some]; omega
  | [], o :: st, h => by simp [FillB] at h
  | t :: l, [], h => by simp [FillB] at h
theorem FillB.full : ∀ {l : List (List UInt8)} {st : BoxS}, FillB l st → leftB st = 0 → allB st = l.flatten
  | [], [], _, _ => rfl
  | t :: l, o :: st, h, h0 => by
    have e : allB (o :: st) = o.getD [] ++ allB st := by unfold allB; rw [List.map_cons, List.flatten_cons]
    have e0 : leftB (o :: st) = leftB st + if o.isNone then 1 else 0 := by unfold leftB; rw [List.countP_cons]
    rw [e0] at h0
    rw [e, List.flatten_cons, FillB.full h.2 (by omega)]
    rcases h.1 with k | k
    · rw [k] at h0; simp at h0
    · rw [k]; rfl
  | [], o :: st, h, _ => by simp [FillB] at h
  | t :: l, [], h, _ => by simp [FillB] at h
theorem FillB.get : ∀ {l : List (List UInt8)} {st : BoxS} (h : FillB l st) (i : Nat) (h1 : i < st.length) (h2 : i < l.length), st[i] = none ∨ st[i] = some l[i]
  | [], [], _, i, h1, _ => absurd h1 (by simp)
  | t :: l, o :: st, h, 0, _, _ => h.1
  | t :: l, o :: st, h, i + 1, h1, h2 => FillB.get h.2 i (by simpa using h1) (by simpa using h2)
  | [], o :: st, h, _, _, _ => by simp [FillB] at h
  | t :: l, [], h, _, _, _ => by simp [FillB] at h
theorem FillB.set : ∀ {l : List (List UInt8)} {st : BoxS} (h : FillB l st) (i : Nat) (h2 : i < l.length), FillB l (st.set i (some l[i]))
  | [], [], _, i, h2 => absurd h2 (by simp)
  | t :: l, o :: st, h, 0, _ => ⟨.inr rfl, h.2⟩
  | t :: l, o :: st, h, i + 1, h2 => ⟨h.1, FillB.set h.2 i (by simpa using h2)⟩
  | [], o :: st, h, _, _ => by simp [FillB] at h
  | t :: l, [], h, _, _ => by simp [FillB] at h
/-- A piece is put into its place. -/
theorem put_fill {l : List (List UInt8)} {st : BoxS} (h : FillB l st) (hl : l.flatten.length ≤ 524288) (i : Nat) (hi : i < (partsL l).length) :
    putE st (partsL l)[i] = 0 ∧ FillB l (putB' st (partsL l)[i]) ∧ ∀ j, j ∈ missB (putB' st (partsL l)[i]) → j ∈ missB st ∧ j ≠ i := by
  have hi2 : i < l.length := by rw [partsL_len] at hi; exact hi
  have hi1 : i < st.length := by rw [h.len]; exact hi2
  rw [partsL_get l i hi]
  rcases h.get i hi1 hi2 with k | k
  · have hs := h.set i hi2
    have hb := hs.bound
    rw [allB_set st i l[i] hi1 k] at hb
    obtain ⟨p1, p2⟩ := put_free (st := st) (p := ⟨(i : Int), (l.length : Int), l[i]⟩) hi1 rfl (by rw [h.len]) k (by show (allB st).length + l[i].length ≤ 524288; omega)
    refine ⟨p1, by rw [p2]; exact hs, fun j hj => ?_⟩
    rw [p2] at hj
    obtain ⟨a, b⟩ := missB_mem.1 hj
    rw [List.length_set] at a
    rw [List.getElem?_set] at b
    by_cases e : i = j
    · subst e
      rw [if_pos rfl, if_pos hi1] at b
      simp at b
    · rw [if_neg e] at b
      exact ⟨missB_mem.2 ⟨a, b⟩, fun c => e c.symm⟩
  · obtain ⟨p1, p2⟩ := put_same (st := st) (p := ⟨(i : Int), (l.length : Int), l[i]⟩) hi1 rfl (by rw [h.len]) k
    refine ⟨p1, by rw [p2]; exact h, fun j hj => ?_⟩
    rw [p2] at hj
    refine ⟨hj, fun c => ?_⟩
    subst c
    obtain ⟨a, b⟩ := missB_mem.1 hj
    rw [List.getElem?_eq_getElem hi1, k] at b
    simp at b
/-- What is missing after a place is filled. -/
theorem miss_less {m : List Nat} {k : Nat} (hk : k < m.length) {A B : List Nat} (hA : ∀ j ∈ A, j ∈ m.take (k + 1)) (hB : ∀ j ∈ B, j ∈ A ∧ j ≠ m[k]) : ∀ j ∈ B, j ∈ m.take k := by
  intro j hj
  obtain ⟨a, b⟩ := hB j hj
  have := hA j a
  rw [List.take_succ_eq_append_getElem hk, List.mem_append, List.mem_singleton] at this
  exact this.elim id (fun e => absurd e b)
theorem miss_end {l : List (List UInt8)} {st : BoxS} (h : FillB l st) {m : List Nat} (hm : ∀ j ∈ missB st, j ∈ m.take 0) : leftB st = 0 ∧ missB st = [] ∧ allB st = l.flatten := by
  have e : missB st = [] := by
    cases c : missB st with
    | nil => rfl
    | cons j r => have := hm j (by rw [c]; exact List.mem_cons_self); simp at this
  have e0 : leftB st = 0 := by rw [← missB_len _ st rfl, e]; rfl
  exact ⟨e0, e, h.full e0⟩
theorem missN_all {st : BoxS} {n : Nat} (h : st.length ≤ n) : missN st (n : Int) = missB st := by
  unfold missN
  rw [Int.toNat_natCast, List.take_of_length_le]
  rw [missB_len _ st rfl]
  have : leftB st ≤ st.length := List.countP_le_length
  omega
end Go.Proofs.Ytiknfohadnjkiaa
