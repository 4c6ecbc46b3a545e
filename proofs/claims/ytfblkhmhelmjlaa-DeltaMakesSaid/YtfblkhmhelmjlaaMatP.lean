/- Plain mathematics of Match and Tail by any book that takes one mark a text alone. -/
import Derived.Test.YtfblkhmhelmjlaaTabX
import Derived.Test.YtfblkhmhelmjlaaCmpW
import Derived.Test.YtfblkhmhelmjlaaFrame
import Derived.Test.YtfblkhmhelmjlaaMarkMath
import Derived.Test.YtfblkhmhelmjlaaNewTabW
import Derived.Test.YtfblkhmhelmjlaaOwnL
import Derived.Test.YtfblkhmhelmjlaaProg
import Derived.Test.YtfblkhmhelmjlaaRollMath
import Derived.Test.YtfblkhmhelmjlaaRows
import Derived.Test.YtfblkhmhelmjlaaShelf
import Derived.Test.YtfblkhmhelmjlaaSigAt
import Derived.Test.YtfblkhmhelmjlaaSignMath
import Derived.Test.YtfblkhmhelmjlaaSortX
import Derived.Test.YtfblkhmhelmjlaaSortEW
import Derived.BigQuiet
import Derived.BigRegion
import Derived.ChangeAlike
import Derived.Deep.CutBlock
import Derived.Deep.DeepCutAuto
import Derived.Deep.Draws
import Derived.Deep.QuietTactic
import Derived.Deep.RegionHeld3
import Derived.Deep.RegionLaw
import Derived.IntWalk
import Derived.Laws.Bits128
import Derived.Laws.BitsAllLaws
import Derived.Laws.IdiomStrings
import Derived.Laws.MakeOwn
import Derived.Laws.Rows
import Derived.Laws.Tables
import Derived.Lib.AppendStr
import Derived.Lib.Hide
import Derived.Maps.OwnSet
import Derived.Maps.Views
import Derived.Outline
import Derived.RegionTactic
import Derived.StillTailTactics
import Derived.WalkKit
import Derived.WalkLawsBesides
import Derived.WalkSpells
set_option linter.unusedVariables false
namespace Go.Proofs.Ytfblkhmhelmjlaa
open Go.RowKit

/-- What a table tells, where P i says that block i is that text. -/
def matchP (P : Nat → Bool) (N B : Nat) (t : Txt) (wanted : Int) : Int :=
  if t.length ≠ B then -1 else if 0 ≤ wanted ∧ wanted < N ∧ P wanted.toNat = true then wanted else lowF P 0 N
theorem lowF_spec {P : Nat → Bool} : ∀ (m k : Nat), ¬ lowF P k m < 0 → ∃ i : Nat, lowF P k m = (i : Int) ∧ k ≤ i ∧ i < k + m ∧ P i = true := by
  intro m
  induction m with
  | zero => intro k h; exact absurd (by unfold lowF; decide) h
  | succ m ih =>
    intro k h
    unfold lowF at h ⊢
    by_cases hp : P k = true
    · rw [if_pos hp]; exact ⟨k, rfl, Nat.le_refl _, by omega, hp⟩
    · rw [if_neg hp] at h ⊢
      obtain ⟨i, h1, h2, h3, h4⟩ := ih (k + 1) h
      exact ⟨i, h1, by omega, by omega, h4⟩
theorem lowF_congr {P Q : Nat → Bool} : ∀ (m k : Nat), (∀ i : Nat, k ≤ i → i < k + m → P i = Q i) → lowF P k m = lowF Q k m := by
  intro m
  induction m with
  | zero => intro k _; rfl
  | succ m ih =>
    intro k h
    unfold lowF
    rw [h k (Nat.le_refl _) (by omega), ih (k + 1) (fun i h1 h2 => h i (by omega) (by omega))]
theorem matchP_spec {P : Nat → Bool} {N B : Nat} {t : Txt} {wanted : Int} (h : ¬ matchP P N B t wanted < 0) : ∃ i : Nat, matchP P N B t wanted = i ∧ i < N ∧ P i = true ∧ t.length = B := by
  unfold matchP at h ⊢
  by_cases hl : t.length = B
  · rw [if_neg (fun c => c hl)] at h ⊢
    by_cases hc : 0 ≤ wanted ∧ wanted < N ∧ P wanted.toNat = true
    · rw [if_pos hc]; exact ⟨wanted.toNat, by omega, by omega, hc.2.2, hl⟩
    · rw [if_neg hc] at h ⊢
      obtain ⟨i, h1, h2, h3, h4⟩ := lowF_spec _ _ h
      exact ⟨i, h1, by omega, h4, hl⟩
  · rw [if_pos hl] at h; exact absurd (by decide) h
theorem matchP_congr {P Q : Nat → Bool} {N B : Nat} (h : ∀ i : Nat, i < N → P i = Q i) (t : Txt) (wanted : Int) : matchP P N B t wanted = matchP Q N B t wanted := by
  unfold matchP
  have h1 : (0 ≤ wanted ∧ wanted < N ∧ P wanted.toNat = true) ↔ (0 ≤ wanted ∧ wanted < N ∧ Q wanted.toNat = true) := by
    constructor
    · rintro ⟨a, b, c⟩; exact ⟨a, b, by rw [← h _ (by omega)]; exact c⟩
    · rintro ⟨a, b, c⟩; exact ⟨a, b, by rw [h _ (by omega)]; exact c⟩
  rw [lowF_congr N 0 (fun i _ h2 => h i (by omega))]
  split
  · rfl
  · by_cases c : 0 ≤ wanted ∧ wanted < N ∧ P wanted.toNat = true
    · rw [if_pos c, if_pos (h1.1 c)]
    · rw [if_neg c, if_neg (fun d => c (h1.2 d))]
theorem matchP_wanted {P : Nat → Bool} {N B : Nat} {t : Txt} {k : Nat} (hl : t.length = B) (hk : k < N) (hp : P k = true) : matchP P N B t k = k := by
  unfold matchP
  rw [if_neg (fun c => c hl), if_pos ⟨by omega, by omega, by rw [Int.toNat_natCast]; exact hp⟩]

def pOf (is : Txt → Bool) (ws : List Int) (ms : List Txt) (weak : Int) (i : Nat) : Bool := decide (wOf ws i = weak) && is (mOf ms i)
theorem matchZ_P {is : Txt → Bool} {ws : List Int} {ms : List Txt} {N B : Nat} {ord : List Nat} (hO : OrdIs ws ms N ord) (hinj : ∀ m m', is m = true → is m' = true → m = m') (t : Txt) (weak wanted : Int) :
    matchZ is ws ms N B ord weak wanted t = matchP (pOf is ws ms weak) N B t wanted := by
  unfold matchZ matchP
  by_cases hl : t.length = B
  · have e1 : ¬ t.length ≠ B := fun c => c hl
    rw [if_neg e1, if_neg e1]
    have hA : (isOfB ws N wanted weak = true ∧ is (mOf ms wanted.toNat) = true) ↔ (0 ≤ wanted ∧ wanted < N ∧ pOf is ws ms weak wanted.toNat = true) := by
      unfold pOf
      rw [Bool.and_eq_true, decide_eq_true_eq]
      constructor
      · rintro ⟨h1, h2⟩
        have h3 := of_decide_eq_true h1
        exact ⟨h3.1, by omega, h3.2.2, h2⟩
      · rintro ⟨h1, h2, h3, h4⟩
        exact ⟨decide_eq_true ⟨h1, by omega, h3⟩, h4⟩
    by_cases hc : isOfB ws N wanted weak = true ∧ is (mOf ms wanted.toNat) = true
    · rw [if_pos hc, if_pos (hA.1 hc)]
    · rw [if_neg hc, if_neg (fun c => hc (hA.2 c))]
      unfold fstS
      have hmem : ∀ j, j ∈ runS ws ord weak ↔ j < N ∧ wOf ws j = weak := by
        intro j
        unfold runS
        rw [List.mem_filter, hO.perm.mem_iff, List.mem_range, decide_eq_true_eq]
      cases hf : (runS ws ord weak).find? (fun i => is (mOf ms i)) with
      | none =>
        rw [List.find?_eq_none] at hf
        symm
        refine lowF_none _ _ (fun j _ hj => ?_)
        unfold pOf
        by_cases hw : wOf ws j = weak
        · have := hf j ((hmem j).2 ⟨by omega, hw⟩)
          simp at this
          rw [this]; simp
        · rw [decide_eq_false hw]; rfl
      | some i =>
        rw [List.find?_eq_some_iff_append] at hf
        obtain ⟨hpi, l1, l2, hl', has⟩ := hf
        have hi := (hmem i).1 (by rw [hl']; simp)
        symm
        refine lowF_some (by unfold pOf; rw [decide_eq_true hi.2, hpi]; rfl) _ _ (Nat.zero_le _) (by omega) (fun j _ hj => ?_)
        cases hcj : pOf is ws ms weak j with
        | false => rfl
        | true =>
          unfold pOf at hcj
          rw [Bool.and_eq_true, decide_eq_true_eq] at hcj
          have hjm : j ∈ runS ws ord weak := (hmem j).2 ⟨by omega, hcj.1⟩
          have hms := runS_MS hO weak
          unfold MS at hms
          rw [hl'] at hjm hms
          rcases List.mem_append.1 hjm with c | c
          · have := has j c
            simp [hcj.2] at this
          · rcases List.mem_cons.1 c with c | c
            · omega
            · have h2 := (List.pairwise_append.1 hms).2.1
              have h3 := (List.pairwise_cons.1 h2).1 j c
              rcases h3 with h3 | ⟨_, h3⟩
              · rw [hinj _ _ hpi hcj.2] at h3
                exact absurd h3 (txt_irr _)
              · omega
  · rw [if_pos hl, if_pos hl]
/-- The first of the blocks of a weak sum. -/
theorem fst_find (is : Txt → Bool) (ws : List Int) (ms : List Txt) (N : Nat) (weak : Int) : fstS is ms ((List.range N).filter (fun i => decide (wOf ws i = weak))) = lowF (pOf is ws ms weak) 0 N := by
  unfold fstS
  have hmem : ∀ j, j ∈ (List.range N).filter (fun i => decide (wOf ws i = weak)) ↔ j < N ∧ wOf ws j = weak := by
    intro j; rw [List.mem_filter, List.mem_range, decide_eq_true_eq]
  have hpw : ((List.range N).filter (fun i => decide (wOf ws i = weak))).Pairwise (fun a b => a < b) := List.Pairwise.filter _ List.pairwise_lt_range
  cases hf : ((List.range N).filter (fun i => decide (wOf ws i = weak))).find? (fun i => is (mOf ms i)) with
  | none =>
    rw [List.find?_eq_none] at hf
    symm
    refine lowF_none _ _ (fun j _ hj => ?_)
    unfold pOf
    by_cases hw : wOf ws j = weak
    · have := hf j ((hmem j).2 ⟨by omega, hw⟩)
      simp at this
      rw [this]; simp
    · rw [decide_eq_false hw]; rfl
  | some i =>
    rw [List.find?_eq_some_iff_append] at hf
    obtain ⟨hpi, l1, l2, hl', has⟩ := hf
    have hi := (hmem i).1 (by rw [hl']; simp)
    symm
    refine lowF_some (by unfold pOf; rw [decide_eq_true hi.2, hpi]; rfl) _ _ (Nat.zero_le _) (by omega) (fun j _ hj => ?_)
    cases hcj : pOf is ws ms weak j with
    | false => rfl
    | true =>
      unfold pOf at hcj
      rw [Bool.and_eq_true, decide_eq_true_eq] at hcj
      have hjm := (hmem j).2 ⟨by omega, hcj.1⟩
      rw [hl'] at hjm hpw
      rcases List.mem_append.1 hjm with c | c
      · have := has j c
        simp [hcj.2] at this
      · rcases List.mem_cons.1 c with c | c
        · omega
        · have h2 := (List.pairwise_append.1 hpw).2.1
          have h3 := (List.pairwise_cons.1 h2).1 j c
          omega
end Go.Proofs.Ytfblkhmhelmjlaa
