/- Images of trees: the mathematics. -/
import Derived.Test.YtfgimhgkjodcgaaDoorArgs3
import Derived.Test.YtfgimhgkjodcgaaDoorCodeMath
import Derived.Test.YtfgimhgkjodcgaaDoorFrame
import Derived.Test.YtfgimhgkjodcgaaDoorMarkMath
import Derived.Test.YtfgimhgkjodcgaaDoorReadMath
import Derived.Test.YtfgimhgkjodcgaaDoorCkX
import Derived.Test.YtfgimhgkjodcgaaDoorRowN
import Derived.Test.YtfgimhgkjodcgaaDoorRows
import Derived.Test.YtfgimhgkjodcgaaDoorText
import Derived.Test.YtfgimhgkjodcgaaDoorTreeMath
import Derived.BigQuiet
import Derived.Deep.Cut
import Derived.Deep.CutBlock
import Derived.Deep.CutRange
import Derived.Deep.DeepCutAuto
import Derived.Deep.Draws
import Derived.Deep.QuietTactic
import Derived.Deep.Slices
import Derived.Deep.Strs
import Derived.Laws.Bits128
import Derived.Laws.IdiomStrings
import Derived.Lib.AppendStr
import Derived.Lib.Hide
import Derived.Lib.SmallJoins
import Derived.WalkKit
import Derived.WalkLawsBesides
import Derived.WalkSpells
set_option linter.unusedVariables false
namespace Go.Proofs.YtfgimhgkjodcgaaDoor
open Go.RowKit

structure FileR (x : FileD) : Prop where
  p : x.path.length ≤ 200
  m0 : 0 ≤ x.mode
  m1 : x.mode ≤ 511
  d : x.data.length ≤ 65536
theorem checkS_each {l : List FileD} (h : checkS l = 0) : l.length ≤ 256 ∧ ∀ x ∈ l, FileR x := by
  unfold checkS at h
  by_cases h1 : togS (l.map (·.path)) = 0
  · rw [if_neg (fun k => k h1)] at h
    unfold togS at h1
    by_cases h2 : 256 < (l.map (·.path)).length
    · rw [if_pos h2] at h1; cases h1
    · rw [if_neg h2] at h1
      rw [List.length_map] at h2
      refine ⟨by omega, fun x hx => ?_⟩
      have hp := path_len (togF_paths _ _ h1 x.path (List.mem_map.2 ⟨x, hx, rfl⟩))
      have hi := firstE_all fileE l h x hx
      unfold fileE at hi
      split at hi
      · cases hi
      · split at hi
        · cases hi
        · rename_i a b
          exact ⟨hp, by omega, by omega, by omega⟩
  · rw [if_pos h1] at h; exact absurd h h1
/-- What is told of a file ahead of all bytes. -/
def hdE (x : FileD) : Txt := tb x.path ++ nb x.mode.toNat ++ nb x.data.length
def hdsE : List FileD → Txt
  | [] => []
  | x :: r => hdE x ++ hdsE r
def datE : List FileD → Txt
  | [] => []
  | x :: r => x.data ++ datE r
def imgB (l : List FileD) : Txt := nb l.length ++ hdsE l ++ datE l
def imgS (l : List FileD) : Txt × Int := if checkS l ≠ 0 then ([], checkS l) else if 524288 < (imgB l).length then ([], 4) else (imgB l, 0)
theorem hdE_len {x : FileD} (h : FileR x) : (hdE x).length ≤ 230 := by
  have h1 := (nb_length x.path.length).2
  have h2 := (nb_length x.mode.toNat).2
  have h3 := (nb_length x.data.length).2
  have h4 := h.p
  unfold hdE tb
  simp only [List.length_append]
  omega
theorem hdsE_len : ∀ (l : List FileD), (∀ x ∈ l, FileR x) → (hdsE l).length ≤ 230 * l.length
  | [], _ => by simp [hdsE]
  | x :: r, h => by
    have h1 := hdE_len (h x (by simp))
    have h2 := hdsE_len r (fun y hy => h y (by simp [hy]))
    unfold hdsE
    rw [List.length_append, List.length_cons]
    omega
/-! ### Reading an image -/
/-- What is told of a file: its path, its mode, how long it is. -/
structure ToldD where
  path : Txt
  mode : Int
  size : Int
def encTo (x : ToldD) : List Value := [.string ⟨x.path.toArray⟩, .int .i64 x.mode, .string ByteArray.empty, .int .i64 x.size]
theorem encTo_ok : EncN encTo 4 := ⟨fun _ => rfl, fun x u hu => by simp [encTo] at hu; rcases hu with rfl | rfl | rfl | rfl <;> rfl⟩
def oneTo (r : RS) : ToldD × RS :=
  let t := rText r 200
  let m := rNum t.2
  let z := rCount m.2 65536
  (⟨t.1, m.1, z.1⟩, z.2)
/-- File by file, till one is not told. -/
def tolF : Nat → RS → List ToldD → List ToldD × RS
  | 0, r, out => (out, r)
  | k + 1, r, out => if r.e ≠ 0 then (out, r) else tolF k (oneTo r).2 (out ++ [(oneTo r).1])
def bare (x : ToldD) : FileD := ⟨x.path, x.mode, []⟩
structure ToldR where
  l : List ToldD
  rest : Txt
  e : Int
def tolEnd (l : List ToldD) (r : RS) : ToldR := if r.e ≠ 0 then ⟨[], [], r.e⟩ else if checkS (l.map bare) ≠ 0 then ⟨[], [], checkS (l.map bare)⟩ else ⟨l, r.l, 0⟩
/-- What stands ahead of the files' bytes, and what is left behind it. -/
def toldS (s : Txt) : ToldR := tolEnd (tolF (rCount ⟨s, 0⟩ 256).1.toNat (rCount ⟨s, 0⟩ 256).2 []).1 (tolF (rCount ⟨s, 0⟩ 256).1.toNat (rCount ⟨s, 0⟩ 256).2 []).2
/-- The files' bytes, one behind the other. -/
def fillF : List ToldD → Txt → List FileD → List FileD × Int
  | [], rest, out => if rest = [] then (out, 0) else ([], 4)
  | x :: r, rest, out => if (rest.length : Int) < x.size then ([], 3) else fillF r (rest.drop x.size.toNat) (out ++ [⟨x.path, x.mode, rest.take x.size.toNat⟩])
def treeS (s : Txt) : List FileD × Int := if 524288 < s.length then ([], 4) else if (toldS s).e ≠ 0 then ([], (toldS s).e) else fillF (toldS s).l (toldS s).rest []
end Go.Proofs.YtfgimhgkjodcgaaDoor
