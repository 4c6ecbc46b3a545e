/- Of no program: what the walk of fits counts down; a list's elements, loaded one by one. -/
import Derived.Test.YtkfkfpfnpfpkaaaDoorGen
import Derived.Test.YtkfkfpfnpfpkaaaDoorGreedyMath
import Derived.Test.YtkfkfpfnpfpkaaaDoorMarkMath
import Derived.Test.YtkfkfpfnpfpkaaaDoorOwnL
import Derived.Test.YtkfkfpfnpfpkaaaDoorRowN
import Derived.Test.YtkfkfpfnpfpkaaaDoorRows
import Derived.BigQuiet
import Derived.Lib.Hide
import Derived.OpenShut
import Derived.ProofKit
import Derived.ShutString
import Derived.SizedLaws
import Derived.SliceStrings
import Derived.WalkKit
import Derived.WalkLawsBesides
import Derived.WalkSpells
set_option linter.unusedVariables false
namespace Go.Proofs.YtkfkfpfnpfpkaaaDoor
open Go.RowKit

def msr (P S a t k : Nat) : Nat := (P + 1 - a) * ((S + 2) * (S + 2)) + (S + 1 - t) * (S + 2) + (S + 1 - k)
theorem msr_star {P S a a' t k : Nat} (h : a < a') (hP : a' ≤ P + 1) (hk : k ≤ S) (ht : t ≤ k) : msr P S a' k k < msr P S a t k := by
  unfold msr
  have h1 : (P + 1 - a' + 1) * ((S + 2) * (S + 2)) ≤ (P + 1 - a) * ((S + 2) * (S + 2)) := Nat.mul_le_mul_right _ (by omega)
  rw [Nat.succ_mul] at h1
  have h2 : (S + 1 - k) * (S + 2) ≤ (S + 1) * (S + 2) := Nat.mul_le_mul_right _ (by omega)
  have h3 : (S + 2) * (S + 2) = (S + 1) * (S + 2) + (S + 2) := Nat.succ_mul (S + 1) (S + 2)
  omega
theorem msr_one {P S a t k : Nat} (hk : k < S) : msr P S a t (k + 1) < msr P S a t k := by unfold msr; omega
theorem msr_back {P S a t k k' : Nat} (ht : t < S) (hk : k' = t + 1) : msr P S a (t + 1) k' < msr P S a t k := by
  unfold msr
  have h1 : (S + 1 - t) * (S + 2) = (S + 1 - (t + 1)) * (S + 2) + (S + 2) := by
    rw [show S + 1 - t = S + 1 - (t + 1) + 1 by omega, Nat.succ_mul]
  omega
/-- Each of a list, loaded. -/
def EachG {α : Type} (enc : α → Value) (w : World) (a : Option Addr) (l : List α) : Prop := ∀ i (hi : i < l.length), ∃ g o, a = some ⟨g, o, none⟩ ∧ w.cell? ⟨g, o + i, none⟩ = some (enc l[i])
theorem EachG.new {α : Type} {enc : α → Value} {w w' : World} {a : Option Addr} {l : List α} (h : EachG enc w a l) (hb : Below w.heap.size w w') : EachG enc w' a l := fun i hi => by
  obtain ⟨g, o, e, hc⟩ := h i hi
  exact ⟨g, o, e, by rw [World.cell?_of_block (w := w) ((Kept.new hb (fun _ => False)).block g (World.block_lt_of_cell? w _ hc) id)]; exact hc⟩
def encB (b : UInt8) : Value := .int .u8 ((b.toNat : Nat) : Int)
def encS (t : Txt) : Value := .string ⟨t.toArray⟩
end Go.Proofs.YtkfkfpfnpfpkaaaDoor
