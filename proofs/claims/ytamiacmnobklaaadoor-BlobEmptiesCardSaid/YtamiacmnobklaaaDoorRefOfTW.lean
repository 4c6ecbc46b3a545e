/- The document's Of (reading a manifest). -/
import Derived.Test.YtamiacmnobklaaaDoorGen
import Derived.Test.YtamiacmnobklaaaDoorMarkMath
import Derived.Test.YtamiacmnobklaaaDoorPtX
import Derived.Test.YtamiacmnobklaaaDoorCdX
import Derived.Test.YtamiacmnobklaaaDoorRowN
import Derived.Test.YtamiacmnobklaaaDoorRows
import Derived.BigQuiet
import Derived.Deep.Cut
import Derived.Deep.CutBlock
import Derived.Deep.CutRange
import Derived.Deep.DeepCutAuto
import Derived.Deep.QuietTactic
import Derived.Deep.Slices
import Derived.Deep.Strs
import Derived.Lib.Hide
import Derived.Lib.SmallJoins
import Derived.OpenShut
import Derived.ProofKit
import Derived.ShutString
import Derived.SizedLaws
import Derived.SliceStrings
import Derived.WalkKit
import Derived.WalkLawsBesides
import Derived.WalkSpells
set_option linter.unusedVariables false
namespace Go.Proofs.YtamiacmnobklaaaDoor
open Go.RowKit

theorem info_item : (Tryd.prog.info? 67).map (fun i => (i.zero, i.size, i.bytes)) = some (some (.agg #[.string ByteArray.empty, .int .i64 0, .int .i64 0, .string ByteArray.empty]), 4, 48) := by kernel_rfl
theorem kept_at (w : World) (g j : Nat) (x : Value) : Kept (· = g) w (w.setCell ⟨g, j, none⟩ x) := (Kept.refl _ _).setCell (by rfl) _
/-- The item's own block. -/
def itO (a : Txt) (m z : Int) (k : Txt) : Obj := .cells #[.string ⟨a.toArray⟩, .int .i64 m, .int .i64 z, .string ⟨k.toArray⟩] 67
theorem it_c {w : World} {g : Nat} {a : Txt} {m z : Int} {k : Txt} (h : w.heap[g]? = some (itO a m z k)) :
    w.cell? ⟨g, 0, none⟩ = some (.string ⟨a.toArray⟩) ∧ w.cell? ⟨g, 1, none⟩ = some (.int .i64 m) ∧ w.cell? ⟨g, 2, none⟩ = some (.int .i64 z) ∧ w.cell? ⟨g, 3, none⟩ = some (.string ⟨k.toArray⟩) ∧
    w.frozen? ⟨g, 0, none⟩ = false ∧ w.frozen? ⟨g, 1, none⟩ = false ∧ w.frozen? ⟨g, 2, none⟩ = false ∧ w.frozen? ⟨g, 3, none⟩ = false := by
  refine ⟨?_, ?_, ?_, ?_, frozen_of_row w g 0 _ _ h, frozen_of_row w g 1 _ _ h, frozen_of_row w g 2 _ _ h, frozen_of_row w g 3 _ _ h⟩ <;> (rw [cell_of_row _ _ _ _ _ _ h]; rfl)
theorem it_set {w : World} {g : Nat} {a : Txt} {m z : Int} {k : Txt} (h : w.heap[g]? = some (itO a m z k)) :
    (∀ b : Txt, (w.setCell ⟨g, 0, none⟩ (.string ⟨b.toArray⟩)).heap[g]? = some (itO b m z k)) ∧ (∀ n : Int, (w.setCell ⟨g, 1, none⟩ (.int .i64 n)).heap[g]? = some (itO a n z k)) ∧
    (∀ n : Int, (w.setCell ⟨g, 2, none⟩ (.int .i64 n)).heap[g]? = some (itO a m n k)) ∧ (∀ b : Txt, (w.setCell ⟨g, 3, none⟩ (.string ⟨b.toArray⟩)).heap[g]? = some (itO a m z b)) := by
  refine ⟨fun b => ?_, fun n => ?_, fun n => ?_, fun b => ?_⟩ <;> (rw [heap_setCell_same w g _ _ _ _ h]; rfl)
theorem rText_len_le (s : RS) (h : s.ok) (most : Nat) : (rText s most).1.length ≤ most := by
  obtain ⟨z, hz1, _, _⟩ := rCount_nat s most h
  have hz2 : z ≤ most := by
    rcases rCount_cases s most h with ⟨h1, _⟩ | ⟨_, h2, h3⟩
    · omega
    · rw [h2] at hz1; omega
  show (rRaw (rCount s most).2 (rCount s most).1).1.length ≤ most
  rw [hz1]
  generalize (rCount s most).2 = r
  unfold rRaw
  split
  · simp
  · split
    · simp
    · split
      · simp
      · rw [List.length_take]; simp; omega
theorem rCount_le (s : RS) (h : s.ok) (most : Nat) : ∃ c : Nat, (rCount s most).1 = (c : Int) ∧ c ≤ most ∧ ((rCount s most).2.e ≠ 0 → c = 0) := by
  obtain ⟨z, hz1, _, hz3⟩ := rCount_nat s most h
  refine ⟨z, hz1, ?_, hz3⟩
  rcases rCount_cases s most h with ⟨h1, _⟩ | ⟨_, h2, h3⟩
  · omega
  · rw [h2] at hz1; omega
theorem rNum_natT (s : RS) (h : s.ok) : ∃ c : Nat, (rNum s).1 = (c : Int) ∧ c ≤ 4611686018427387903 := by
  by_cases he : (rNum s).2.e = 0
  · obtain ⟨c, h1, h2, _⟩ := rNum_split s h he
    exact ⟨c, h2, h1⟩
  · exact ⟨0, by rw [rNum_zero s he]; rfl, by omega⟩
theorem raw32 (s : RS) : (rRaw s 32).1.length ≤ 32 := by
  unfold rRaw
  split
  · simp
  · split
    · simp
    · split
      · simp
      · rw [List.length_take]; simp; omega
end Go.Proofs.YtamiacmnobklaaaDoor
