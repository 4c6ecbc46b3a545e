/- Boxes in numbers -/
import Derived.Test.YtiknfohadnjkiaaChunkMath
import Derived.Test.YtiknfohadnjkiaaRefBoxW
import Derived.Test.YtiknfohadnjkiaaRowN
import Derived.Test.YtiknfohadnjkiaaRows
import Derived.BigQuiet
import Derived.Deep.Draws
import Derived.Deep.QuietTactic
import Derived.Deep.RegionHeld3
import Derived.Laws.Bits128
import Derived.Laws.IdiomStrings
import Derived.Laws.ResultCell
import Derived.Lib.AppendStr
import Derived.Lib.Hide
import Derived.OpenShut
import Derived.Outline
import Derived.ProofKit
import Derived.ShutString
import Derived.SizedLaws
import Derived.SliceStrings
import Derived.WalkKit
import Derived.WalkLawsBesides
import Derived.WalkSpells
set_option linter.unusedVariables false
namespace Go.Proofs.Ytiknfohadnjkiaa
open Go.RowKit

theorem allB_none (n : Nat) : allB (List.replicate n none) = [] := by
  unfold allB
  induction n with
  | zero => rfl
  | succ n ih => rw [List.replicate_succ, List.map_cons, List.flatten_cons, ih]; rfl
theorem leftB_none (n : Nat) : leftB (List.replicate n none) = n := by
  unfold leftB
  rw [List.countP_replicate]
  simp
theorem leftB_set {st : BoxS} {i : Nat} (hi : i < st.length) (h : st[i] = none) (t : List UInt8) : leftB (st.set i (some t)) + 1 = leftB st := by
  have e : st = st.take i ++ (none :: st.drop (i + 1)) := by rw [← h, ← List.drop_eq_getElem_cons hi, List.take_append_drop]
  have e2 : st.set i (some t) = st.take i ++ (some t :: st.drop (i + 1)) := by rw [List.set_eq_take_append_cons_drop, if_pos hi]
  rw [e2]
  conv => rhs; rw [e]
  unfold leftB
  rw [List.countP_append, List.countP_append, List.countP_cons, List.countP_cons]
  simp
  omega
/-- What is put into an empty place, all being short. -/
theorem put_free {st : BoxS} {p : PartD} {i : Nat} (hi : i < st.length) (hp : p.at' = (i : Int)) (ho : p.of' = (st.length : Int)) (h : st[i] = none) (hs : (allB st).length + p.text.length ≤ 524288) : putE st p = 0 ∧ putB' st p = st.set i (some p.text) := by
  have e : putE st p = 0 := by rw [putE_none hi hp ho h, if_neg (by omega)]
  refine ⟨e, ?_⟩
  unfold putB'
  rw [if_neg (by rw [e]; simp), hp, Int.toNat_natCast]
/-- What is put once more. -/
theorem put_same {st : BoxS} {p : PartD} {i : Nat} (hi : i < st.length) (hp : p.at' = (i : Int)) (ho : p.of' = (st.length : Int)) (h : st[i] = some p.text) : putE st p = 0 ∧ putB' st p = st := by
  have e : putE st p = 0 := by rw [putE_some hi hp ho h, if_pos rfl]
  refine ⟨e, ?_⟩
  unfold putB'
  rw [if_neg (by rw [e]; simp), hp, Int.toNat_natCast]
  refine List.ext_getElem? fun a => ?_
  rw [List.getElem?_set]
  split
  · rename_i k; subst k; rw [List.getElem?_eq_getElem hi, h]
  · rfl
/-- Another text is put there. -/
theorem put_other {st : BoxS} {p : PartD} {i : Nat} (hi : i < st.length) (hp : p.at' = (i : Int)) (ho : p.of' = (st.length : Int)) {t : List UInt8} (h : st[i] = some t) (hne : t ≠ p.text) : putE st p = 6 ∧ putB' st p = st := by
  have e : putE st p = 6 := by rw [putE_some hi hp ho h, if_neg hne]
  refine ⟨e, ?_⟩
  unfold putB'
  rw [if_pos (by rw [e]; decide)]
theorem cutL_1024 : ∀ (k : Nat) (s : List UInt8), s.length ≤ k → (cutL 1024 s).length ≤ s.length / 1024 + 1
  | 0, s, h => by
    rw [cutL_step (by decide), if_neg (by omega)]
    simp
  | k + 1, s, h => by
    rw [cutL_step (by decide)]
    split
    · have := cutL_1024 k (s.drop 1024) (by rw [List.length_drop]; omega)
      rw [List.length_drop] at this
      rw [List.length_cons]
      omega
    · simp
end Go.Proofs.Ytiknfohadnjkiaa
