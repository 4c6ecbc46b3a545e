/- Plain mathematics of SignOwn: each block is matched by itself. -/
import Derived.Test.YtifbdbblfhphjaaTabX
import Derived.Test.YtifbdbblfhphjaaMarkMath
import Derived.Test.YtifbdbblfhphjaaNewTabW
import Derived.Test.YtifbdbblfhphjaaProg
import Derived.Test.YtifbdbblfhphjaaRollMath
import Derived.Test.YtifbdbblfhphjaaRows
import Derived.Test.YtifbdbblfhphjaaShelf
import Derived.Test.YtifbdbblfhphjaaSigAt
import Derived.Test.YtifbdbblfhphjaaSigOwnW
import Derived.Test.YtifbdbblfhphjaaSignMath
import Derived.Test.YtifbdbblfhphjaaSortX
import Derived.Test.YtifbdbblfhphjaaSortEW
import Derived.BigQuiet
import Derived.BigRegion
import Derived.ChangeAlike
import Derived.Deep.CutBlock
import Derived.Deep.DeepCutAuto
import Derived.Deep.Draws
import Derived.Deep.QuietTactic
import Derived.Deep.RegionHeld3
import Derived.Deep.RegionLaw
import Derived.IntWalk
import Derived.Laws.Bits128
import Derived.Laws.BitsAllLaws
import Derived.Laws.IdiomStrings
import Derived.Laws.MakeOwn
import Derived.Laws.Rows
import Derived.Laws.Tables
import Derived.Lib.AppendStr
import Derived.Lib.Hide
import Derived.Maps.OwnSet
import Derived.Maps.Views
import Derived.OpenShut
import Derived.Outline
import Derived.ProofKit
import Derived.RegionTactic
import Derived.ShutString
import Derived.SizedLaws
import Derived.SliceStrings
import Derived.Sort.Walk0
import Derived.StillTailTactics
import Derived.WalkKit
import Derived.WalkLawsBesides
import Derived.WalkSpells
set_option linter.unusedVariables false
namespace Go.Proofs.Ytifbdbblfhphjaa
open Go.RowKit

theorem lowF_least {P : Nat → Bool} {i : Nat} (hP : P i = true) : ∀ (m k : Nat), k ≤ i → i < k + m → ∃ j, k ≤ j ∧ j ≤ i ∧ P j = true ∧ lowF P k m = (j : Int) := by
  intro m
  induction m with
  | zero => intro k h1 h2; omega
  | succ m ih =>
    intro k h1 h2
    unfold lowF
    by_cases e : P k = true
    · exact ⟨k, Nat.le_refl _, h1, e, if_pos e⟩
    · rw [if_neg e]
      have hk : k ≠ i := fun c => e (by rw [c]; exact hP)
      obtain ⟨j, h3, h4, h5, h6⟩ := ih (k + 1) (by omega) (by omega)
      exact ⟨j, by omega, h4, h5, h6⟩
section
variable {B : Nat} {s : Txt} {L S : List Txt} {ws : List Int} {ms : List Txt} {N : Nat}
theorem condB_self (h : Signed B s L S ws ms N) {i : Nat} (hi : i < L.length) (hl : L[i].length = B) : condB L B L[i] (wOf ws i) i = true := by
  unfold condB
  rw [List.getD_eq_getElem?_getD, List.getElem?_eq_getElem hi, Option.getD_some]
  exact decide_eq_true ⟨hl, rfl, (h.w hi).symm⟩
theorem Signed.own_is (h : Signed B s L S ws ms N) {ord : List Nat} (hO : OrdIs ws ms N ord) {i : Nat} (hi : i < L.length) (hl : L[i].length = B) :
    matchZ (isS S L[i]) ws ms N B ord (wOf ws i) (i : Int) L[i] = (i : Int) := by
  rw [h.match_eq hO, if_pos]
  rw [anyF_iff]
  exact ⟨i, Nat.zero_le _, by omega, condB_self h hi hl, rfl⟩
theorem Signed.own_any (h : Signed B s L S ws ms N) {ord : List Nat} (hO : OrdIs ws ms N ord) {i : Nat} (hi : i < L.length) (hl : L[i].length = B) :
    ∃ (k : Nat) (hk : k < L.length), k ≤ i ∧ L[k] = L[i] ∧ matchZ (isS S L[i]) ws ms N B ord (wOf ws i) (-1) L[i] = (k : Int) := by
  obtain ⟨k, _, h2, h3, h4⟩ := lowF_least (condB_self h hi hl) L.length 0 (Nat.zero_le _) (by omega)
  refine ⟨k, by omega, h2, ?_, ?_⟩
  · have h5 := of_decide_eq_true h3
    rw [List.getD_eq_getElem?_getD, List.getElem?_eq_getElem (show k < L.length by omega), Option.getD_some] at h5
    exact h5.2.1
  · rw [h.match_eq hO, if_neg, h4]
    rw [anyF_iff]
    rintro ⟨j, _, _, _, h6⟩
    omega
theorem Signed.own_tail (h : Signed B s L S ws ms N) {i : Nat} (hi : i < L.length) (hl : L[i].length ≠ B) : tailZ (isS S L[i]) ws ms N B s.length L[i] = true := by
  have hs := h.small
  have hNi : i = N := by
    by_cases c : i < N
    · exact absurd ((h.whole hi).2 c) hl
    · omega
  have hlen := h.len
  have hb := h.b1
  have e1 := Nat.div_add_mod s.length B
  have hm := Nat.mod_lt s.length (show 0 < B by omega)
  rw [← h.hN] at e1
  have hcm : B * N = N * B := Nat.mul_comm _ _
  rw [h.tail_eq]
  by_cases h0 : s.length % B = 0
  · rw [if_pos h0] at hlen; omega
  · have hg := (h.get hi).1
    have hgd : L[i] = s.drop (s.length - s.length % B) := by
      rw [hg, show s.length - s.length % B = i * B by rw [hNi]; omega, List.take_of_length_le]
      rw [List.length_drop, hNi]; omega
    rw [decide_eq_true hgd, decide_eq_true (show 0 < s.length % B by omega)]; rfl
end
end Go.Proofs.Ytifbdbblfhphjaa
