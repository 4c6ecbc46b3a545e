/- The document's Bytes of a manifest. -/
import Derived.Test.YtamiacmnobklaaaGreatDoorArX
import Derived.Test.YtamiacmnobklaaaGreatDoorFrame
import Derived.Test.YtamiacmnobklaaaGreatDoorMarkMath
import Derived.Test.YtamiacmnobklaaaGreatDoorRowN
import Derived.Test.YtamiacmnobklaaaGreatDoorRows
import Derived.Test.YtamiacmnobklaaaGreatDoorTreeMath
import Derived.BigQuiet
import Derived.Deep.Cut
import Derived.Deep.CutRange
import Derived.Deep.DeepCutAuto
import Derived.Deep.Draws
import Derived.Deep.QuietTactic
import Derived.Deep.Slices
import Derived.Deep.Strs
import Derived.Laws.Bits128
import Derived.Laws.IdiomStrings
import Derived.Lib.AppendStr
import Derived.Lib.Hide
import Derived.Lib.SmallJoins
import Derived.WalkKit
import Derived.WalkLawsBesides
import Derived.WalkSpells
set_option linter.unusedVariables false
namespace Go.Proofs.YtamiacmnobklaaaGreatDoor
open Go.RowKit

theorem togF_paths : ∀ (l : List Txt) (q : Option Txt), togF q l = 0 → ∀ p ∈ l, pathS p = 0
  | [], _, _, p, hp => by simp at hp
  | x :: r, q, h, p, hp => by
    have hx : pathS x = 0 := by
      by_cases hx : pathS x = 0
      · exact hx
      · exfalso
        cases q <;> (unfold togF at h; rw [if_pos hx] at h; exact hx h)
    simp at hp
    rcases hp with rfl | hp
    · exact hx
    · cases q with
      | none =>
        unfold togF at h
        rw [if_neg (fun e => e hx)] at h
        exact togF_paths r (some x) h p hp
      | some q =>
        unfold togF at h
        rw [if_neg (fun e => e hx)] at h
        dsimp only at h
        by_cases h1 : ordS x q < 0
        · rw [if_pos h1] at h; exact absurd h (by decide)
        · rw [if_neg h1] at h
          by_cases h2 : x = q ∨ withinS x q = true
          · rw [if_pos h2] at h; exact absurd h (by decide)
          · rw [if_neg h2] at h
            exact togF_paths r (some x) h p hp
theorem path_len {p : Txt} (h : pathS p = 0) : p.length ≤ 200 := by
  unfold pathS at h
  by_cases h1 : 200 < p.length
  · rw [if_pos h1] at h; exact absurd h (by decide)
  · omega
theorem firstE_all {α : Type} (E : α → Int) : ∀ l : List α, firstE E l = 0 → ∀ x ∈ l, E x = 0
  | [], _, x, hx => by simp at hx
  | y :: r, h, x, hx => by
    unfold firstE at h
    by_cases hy : E y = 0
    · rw [if_neg (fun e => e hy)] at h
      simp at hx
      rcases hx with rfl | hx
      · exact hy
      · exact firstE_all E r h x hx
    · rw [if_pos hy] at h; exact absurd h hy
structure ItemR (x : ItemD) : Prop where
  p : x.path.length ≤ 200
  m0 : 0 ≤ x.mode
  m1 : x.mode ≤ 511
  s0 : 0 ≤ x.size
  s1 : x.size ≤ 65536
  k : x.mark.length = 32
theorem rightS_each {l : List ItemD} (h : rightS l = 0) : l.length ≤ 256 ∧ ∀ x ∈ l, ItemR x := by
  unfold rightS at h
  by_cases ht : togS (l.map (·.path)) = 0
  · rw [if_neg (fun e => e ht)] at h
    unfold togS at ht
    by_cases hl : 256 < (l.map (·.path)).length
    · rw [if_pos hl] at ht; exact absurd ht (by decide)
    · rw [if_neg hl] at ht
      rw [List.length_map] at hl
      refine ⟨by omega, fun x hx => ?_⟩
      have hp := path_len (togF_paths _ _ ht x.path (List.mem_map.2 ⟨x, hx, rfl⟩))
      have hi := firstE_all _ _ h x hx
      unfold itemE at hi
      by_cases h1 : x.mode < 0 ∨ 511 < x.mode
      · rw [if_pos h1] at hi; exact absurd hi (by decide)
      · rw [if_neg h1] at hi
        by_cases h2 : x.size < 0 ∨ 65536 < x.size
        · rw [if_pos h2] at hi; exact absurd hi (by decide)
        · rw [if_neg h2] at hi
          by_cases h3 : x.mark.length = 32
          · exact ⟨hp, by omega, by omega, by omega, by omega, h3⟩
          · rw [if_pos h3] at hi; exact absurd hi (by decide)
  · rw [if_pos ht] at h; exact absurd h ht
theorem sharedS_le : ∀ a b : Txt, sharedS a b ≤ a.length ∧ sharedS a b ≤ b.length
  | [], _ => ⟨Nat.zero_le _, Nat.zero_le _⟩
  | _ :: _, [] => ⟨Nat.zero_le _, Nat.zero_le _⟩
  | a :: s, b :: t => by
    unfold sharedS
    split
    · have := sharedS_le s t; simp; omega
    · exact ⟨Nat.zero_le _, Nat.zero_le _⟩
theorem cat2 (a b : List UInt8) : (ByteArray.mk a.toArray) ++ (ByteArray.mk b.toArray) = ⟨(a ++ b).toArray⟩ := by
  apply ByteArray.ext
  simp
end Go.Proofs.YtamiacmnobklaaaGreatDoor
