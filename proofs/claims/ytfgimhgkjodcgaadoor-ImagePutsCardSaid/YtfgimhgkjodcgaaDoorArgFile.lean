/- A file that came in by value: what a walk is told of it. -/
import Derived.Test.YtfgimhgkjodcgaaDoorArgTree
import Derived.Test.YtfgimhgkjodcgaaDoorGen
import Derived.Test.YtfgimhgkjodcgaaDoorOwnL
import Derived.Test.YtfgimhgkjodcgaaDoorReadW
import Derived.Test.YtfgimhgkjodcgaaDoorRowN
import Derived.Test.YtfgimhgkjodcgaaDoorRows
import Derived.Test.YtfgimhgkjodcgaaDoorTreeMath
import Derived.BigQuiet
import Derived.Lib.Hide
import Derived.OpenShut
import Derived.ProofKit
import Derived.ShutString
import Derived.SizedLaws
import Derived.SliceStrings
import Derived.WalkKit
import Derived.WalkLawsBesides
import Derived.WalkSpells
set_option linter.unusedVariables false
namespace Go.Proofs.YtfgimhgkjodcgaaDoor
open Go.ChangeShapes Go.WideShapes Go.ChangeAt Go.RowKit

def FiIn (v : Value) : Prop := ∃ f : FileD, FileOk f ∧ v = .agg #[.string ⟨f.path.toArray⟩, .int .i64 f.mode, .string ⟨f.data.toArray⟩]
section
variable {H : Type} {enc : TypeId × Value → H} {P : Program} {W : World} {t ti ts : TypeId} {v : Value} {d : DataW H} {ps : List MemPlace} {base : Nat}
theorem arg_file {f0 f1 f2 : Field} (hst : P.underlying t = some (.struct #[f0, f1, f2])) (hint : P.underlying ti = some (.int .i64)) (hstr : P.underlying ts = some .string)
    (hf : f0.type = ts ∧ f1.type = ti ∧ f2.type = ts ∧ f0.offset = 0 ∧ f1.offset = 1 ∧ f2.offset = 2) (hct : P.cellsOf t = 3) (hci : P.cellsOf ti = 1) (hcs : P.cellsOf ts = 1)
    (hval : Value.okWide P W .any base t v) (h : DataW.Trod enc P W 0 (fun _ => true) true t v d ps) (hw : ∀ n ∈ d.weights P t, n ≤ reachBytes) : FiIn v := by
  obtain ⟨cs, rfl, hsz⟩ := okWide_struct hst hval
  obtain ⟨fuel, hfu⟩ := h
  obtain ⟨t0, t1, t2, o0, o1, o2⟩ := hf
  obtain ⟨y0, y1, y2, n', hy, _, k0, k1, k2⟩ := Deep.trod_struct3 hst hfu
  rw [hct] at hsz
  obtain ⟨l⟩ := cs
  match l, hsz with
  | [c0, c1, c2], _ =>
    rw [t0, o0, hcs] at k0
    rw [t1, o1, hci] at k1
    rw [t2, o2, hcs] at k2
    simp [Value.cells] at k0 k1 k2
    obtain ⟨q0, e0, d0, _⟩ := DataW.trod_string hstr k0
    obtain ⟨q1, e1, d1, w1⟩ := DataW.trod_int hint k1
    obtain ⟨q2, e2, d2, _⟩ := DataW.trod_string hstr k2
    simp at e0 e1 e2
    subst e0; subst e1; subst e2
    simp only [Prod.mk.injEq] at hy
    obtain ⟨rfl, rfl⟩ := hy
    have hww : ∀ (j : Nat) (f : Field) (x : DataW H), #[f0, f1, f2].toList[j]? = some f → [y0.1, y1.1, y2.1][j]? = some x → ∀ n ∈ x.weights P f.type, n ≤ reachBytes := by
      intro j f x hj hx n hn
      refine hw n ?_
      rw [DataW.weights, hst]
      refine DataW.weights_mem_each (j := j) (t := f.type) (d := x) ?_ hx n hn
      have hj' : [f0, f1, f2][j]? = some f := hj
      show ([f0, f1, f2].map (·.type))[j]? = _
      rw [List.getElem?_map, hj']
      rfl
    have l0 := hww 0 f0 y0.1 rfl rfl q0.data.toList.length (by rw [d0]; simp [DataW.weights])
    have l2 := hww 2 f2 y2.1 rfl rfl q2.data.toList.length (by rw [d2]; simp [DataW.weights])
    simp only [reachBytes] at l0 l2
    exact ⟨⟨q0.data.toList, q1, q2.data.toList⟩, ⟨by simpa using l0, bounds_i64 w1, by simpa using l2⟩, by simp⟩
end
end Go.Proofs.YtfgimhgkjodcgaaDoor
