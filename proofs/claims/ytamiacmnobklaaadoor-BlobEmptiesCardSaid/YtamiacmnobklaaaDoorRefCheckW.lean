/- The document's Check. -/
import Derived.Test.YtamiacmnobklaaaDoorCdX
import Derived.Test.YtamiacmnobklaaaDoorRowN
import Derived.Test.YtamiacmnobklaaaDoorRows
import Derived.Test.YtamiacmnobklaaaDoorTreeMath
import Derived.BigQuiet
import Derived.Deep.Cut
import Derived.Deep.CutRange
import Derived.Deep.DeepCutAuto
import Derived.Deep.Draws
import Derived.Deep.QuietTactic
import Derived.Deep.Slices
import Derived.Deep.Strs
import Derived.Laws.Bits128
import Derived.Laws.IdiomStrings
import Derived.Lib.AppendStr
import Derived.Lib.Hide
import Derived.Lib.SmallJoins
import Derived.OpenShut
import Derived.ProofKit
import Derived.ShutString
import Derived.SizedLaws
import Derived.SliceStrings
import Derived.WalkKit
import Derived.WalkLawsBesides
import Derived.WalkSpells
set_option linter.unusedVariables false
namespace Go.Proofs.YtamiacmnobklaaaDoor
open Go.RowKit

theorem ElAt.f0 {w : World} {g o : Nat} {x : FileD} (h : ElAt encF w g o x) : w.cell? ⟨g, o, none⟩ = some (.string ⟨x.path.toArray⟩) := h 0 _ rfl
theorem ElAt.f1 {w : World} {g o : Nat} {x : FileD} (h : ElAt encF w g o x) : w.cell? ⟨g, o + 1, none⟩ = some (.int .i64 x.mode) := h 1 _ rfl
theorem ElAt.f2 {w : World} {g o : Nat} {x : FileD} (h : ElAt encF w g o x) : w.cell? ⟨g, o + 2, none⟩ = some (.string ⟨x.data.toArray⟩) := h 2 _ rfl
theorem firstE_at {α : Type} (E : α → Int) (l : List α) (i : Nat) (h : i < l.length) : firstE E (l.drop i) = if E l[i] ≠ 0 then E l[i] else firstE E (l.drop (i + 1)) := by
  rw [List.drop_eq_getElem_cons h]; rfl
theorem firstE_end {α : Type} (E : α → Int) (l : List α) : firstE E (l.drop l.length) = 0 := by rw [List.drop_eq_nil_of_le (Nat.le_refl _)]; rfl
theorem RowN.el {α : Type} {enc : α → List Value} {k : Nat} {N : Nat → Prop} {w : World} {a : Option Addr} {m c : Nat} {xs : List α} (h : RowN enc k N w (.slice a m c) xs) {i : Nat} (hi : i < xs.length) : ∃ g o, a = some ⟨g, o, none⟩ ∧ ∀ j (hj : j < xs.length), ElAt enc w g (o + j * k) xs[j] := by
  obtain ⟨a', c', hv, _, hc⟩ := h
  injection hv with e1 _ _
  subst e1
  obtain ⟨g, o, rfl, _, _⟩ := hc i hi
  refine ⟨g, o, rfl, fun j hj => ?_⟩
  obtain ⟨g', o', he, _, h'⟩ := hc j hj
  simp at he
  obtain ⟨rfl, rfl⟩ := he
  exact h'
theorem take_map_succ {α β : Type} (f : α → β) (l : List α) (i : Nat) (h : i < l.length) : (l.take (i + 1)).map f = (l.take i).map f ++ [f l[i]] := by
  rw [List.take_succ_eq_append_getElem h, List.map_append]; rfl
end Go.Proofs.YtamiacmnobklaaaDoor
