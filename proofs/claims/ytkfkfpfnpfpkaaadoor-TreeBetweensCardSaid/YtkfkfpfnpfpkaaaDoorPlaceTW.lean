/- The document's place (of a path in a manifest), and the mathematics of Between. -/
import Derived.Test.YtkfkfpfnpfpkaaaDoorMarkMath
import Derived.Test.YtkfkfpfnpfpkaaaDoorReadW
import Derived.Test.YtkfkfpfnpfpkaaaDoorRefCheckW
import Derived.Test.YtkfkfpfnpfpkaaaDoorRefRightTW
import Derived.Test.YtkfkfpfnpfpkaaaDoorRowN
import Derived.Test.YtkfkfpfnpfpkaaaDoorRows
import Derived.Test.YtkfkfpfnpfpkaaaDoorTreeMath
import Derived.BigQuiet
import Derived.Deep.Cut
import Derived.Deep.CutBlock
import Derived.Deep.CutRange
import Derived.Deep.DeepCutAuto
import Derived.Deep.Draws
import Derived.Deep.QuietTactic
import Derived.Deep.Slices
import Derived.Deep.Strs
import Derived.Laws.Bits128
import Derived.Laws.IdiomStrings
import Derived.Lib.AppendStr
import Derived.Lib.Hide
import Derived.Lib.SmallJoins
import Derived.OpenShut
import Derived.ProofKit
import Derived.ShutString
import Derived.SizedLaws
import Derived.SliceStrings
import Derived.WalkKit
import Derived.WalkLawsBesides
import Derived.WalkSpells
set_option linter.unusedVariables false
namespace Go.Proofs.YtkfkfpfnpfpkaaaDoor
open Go.RowKit

def atS (l : List ItemD) (p : Txt) : Option ItemD := l.find? (fun x => x.path == p)
def kindS (a b : List ItemD) (p : Txt) : Int :=
  match atS b p, atS a p with
  | none, _ => 1
  | some _, none => 2
  | some y, some x => if x.size ≠ y.size ∨ x.mark ≠ y.mark then 3 else if x.mode ≠ y.mode then 4 else 0
def bareS (x : ItemD) : FileD := ⟨x.path, 0, []⟩
def allS (a b : List ItemD) : List FileD := sortS (a.map bareS ++ (b.filter (fun y => (atS a y.path).isNone)).map bareS)
def chgS (a b : List ItemD) (f : FileD) : List ChgD := if 0 < kindS a b f.path then [⟨kindS a b f.path, f.path⟩] else []
def betweenE (a b : List ItemD) : Int := if rightS a ≠ 0 then rightS a else rightS b
def betweenS (a b : List ItemD) : List ChgD := if betweenE a b ≠ 0 then [] else ((allS a b).map (chgS a b)).flatten
/-- Where a path is. -/
def PlAt (l : List ItemD) (p : Txt) (n : Int) : Prop := (n = -1 ∧ atS l p = none) ∨ ∃ i, ∃ h : i < l.length, n = (i : Int) ∧ atS l p = some l[i]
theorem at_here (l : List ItemD) (p : Txt) (i : Nat) (hi : i < l.length) (hp : l[i].path = p) (hb : ∀ j (hj : j < l.length), j < i → l[j].path ≠ p) : atS l p = some l[i] := by
  unfold atS
  rw [List.find?_eq_some_iff_getElem]
  refine ⟨by simp [hp], i, hi, rfl, fun j hj => ?_⟩
  have := hb j (by omega) hj
  simp [this]
theorem at_none (l : List ItemD) (p : Txt) (hb : ∀ j (hj : j < l.length), l[j].path ≠ p) : atS l p = none := by
  unfold atS
  rw [List.find?_eq_none]
  intro x hx
  obtain ⟨j, hj, rfl⟩ := List.mem_iff_getElem.1 hx
  simpa using hb j hj
set_option maxRecDepth 100000 in
theorem refPlace_any (v : Value) (l : List ItemD) (p : Txt) (w : World) (hrow : RowN encI 4 (fun _ => True) w v l) (hl : l.length ≤ 1000000) :
    Calls Tryd.prog 86 #[v, .string ⟨p.toArray⟩] w fun e w' => ∃ n, e = .returned (.int .i64 n) ∧ PlAt l p n ∧ w = w' := by
  obtain ⟨va, vc, hv, _⟩ := hrow.slice
  subst hv
  have HRO := Lib.hid hrow
  clear hrow
  go_enter Tryd.func86, Tryd.ntmps86
  go_wp2_with fail
  go_loopw [5] (fun v5 wr => ∃ i : Nat, i ≤ l.length ∧ v5 = .int .i64 i ∧ Hid (∀ j (hj : j < l.length), j < i → l[j].path ≠ p) ∧ w = wr) (fun v5 _ => l.length - (intOf v5).toNat)
  case atStart => exact ⟨0, by omega, rfl, Lib.hid (fun j hj h => by omega), rfl⟩
  case round =>
    obtain ⟨i, hi, rfl, HA, rfl⟩ := hrel
    have i0 : (0 : Int) ≤ (i : Int) := by omega
    by_cases hlt : i < l.length
    · have j1 : (i : Int) < (l.length : Int) := by omega
      obtain ⟨g, o, rfl, hel⟩ := HRO.out.el hlt
      have c0 := (hel i hlt).i0
      have HE := Lib.hid (fun h => at_here l p i hlt h HA.out)
      have HN := Lib.hid (fun (h : l[i].path ≠ p) j (hj : j < l.length) (hji : j < i + 1) => show l[j].path ≠ p from by
        rcases Nat.lt_or_ge j i with c | c
        · exact HA.out j hj c
        · obtain rfl : j = i := by omega
          exact h)
      obtain ⟨y, hy⟩ : ∃ y, y = l[i] := ⟨_, rfl⟩
      have HY := Lib.hid hy
      rw [← hy] at c0 HE HN
      clear hel hy
      by_cases hp : y.path = p
      · have m1 : (y.path == p) = true := by simp [hp]
        have HP := Lib.hid hp
        clear hp
        go_wp2_with fail
        go_ret
        exact ⟨_, rfl, .inr ⟨i, hlt, rfl, by rw [HE.out HP.out, HY.out]⟩, rfl⟩
      · have m1 : (y.path == p) = false := by simp [hp]
        go_wp2_with fail
        go_roundw
        case rel => exact ⟨i + 1, by omega, by go_num, Lib.hid (HN.out hp), trivial⟩
        case measure => simp [intOf]; omega
    · have j1 : ¬ (i : Int) < (l.length : Int) := by omega
      go_wp2_with fail
      go_ret
      exact ⟨_, rfl, .inl ⟨rfl, at_none l p (fun j hj => HA.out j hj (by omega))⟩, rfl⟩
end Go.Proofs.YtkfkfpfnpfpkaaaDoor
