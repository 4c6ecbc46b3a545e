/- What a landed box is asked to do, told of any way to keep it: the laws of stage 13 are walked of these contracts alone. -/
import Derived.Test.YtiknfohadnjkiaaChunkMath
import Derived.Test.YtiknfohadnjkiaaFrame
import Derived.Test.YtiknfohadnjkiaaGen
import Derived.Test.YtiknfohadnjkiaaOwnL
import Derived.Test.YtiknfohadnjkiaaRefKeep2W
import Derived.Test.YtiknfohadnjkiaaRowN
import Derived.Test.YtiknfohadnjkiaaRows
import Derived.BigQuiet
import Derived.Deep.QuietTactic
import Derived.Lib.Hide
import Derived.Outline
import Derived.WalkKit
import Derived.WalkLawsBesides
import Derived.WalkSpells
set_option linter.unusedVariables false
namespace Go.Proofs.Ytiknfohadnjkiaa
open Go.RowKit

def partV (p : PartD) : Value := .agg #[.int .i64 p.at', .int .i64 p.of', .string ⟨p.text.toArray⟩]
def I64 (n : Int) : Prop := -9223372036854775808 ≤ n ∧ n ≤ 9223372036854775807
/-- A text is cut. -/
def CutC : Prop := ∀ (s : List UInt8) (size : Int) (w : World), s.length ≤ 140737488351232 → I64 size →
  Calls Try.prog 10 #[.string ⟨s.toArray⟩, .int .i64 size] w fun e w' => ∃ v', e = .returned (.tuple #[v', .int .i64 (cutE s size)]) ∧ OwnN encPt 3 w' w.heap.size 40 v' (cutP s size) ∧ Below w.heap.size w w'
/-- A box in block b; N tells its own blocks. -/
structure BoxC (BX : World → Nat → (Nat → Prop) → BoxS → Prop) : Prop where
  nb : ∀ {w : World} {b : Nat} {N : Nat → Prop} {st : BoxS}, BX w b N st → N b
  lt : ∀ {w : World} {b : Nat} {N : Nat → Prop} {st : BoxS}, BX w b N st → ∀ i, N i → i < w.heap.size
  len : ∀ {w : World} {b : Nat} {N : Nat → Prop} {st : BoxS}, BX w b N st → 1 ≤ st.length ∧ st.length ≤ 4096 ∧ (allB st).length ≤ 524288
  kept : ∀ {w w' : World} {b : Nat} {N M : Nat → Prop} {st : BoxS}, BX w b N st → Kept M w w' → (∀ i, N i → ¬ M i) → BX w' b N st
  newOk : ∀ (n : Int) (w : World), 1 ≤ n → n ≤ 4096 → Calls Try.prog 14 #[.int .i64 n] w fun e w' => ∃ b N, e = .returned (.tuple #[.pointer (some ⟨b, 0, none⟩), .int .i64 0]) ∧ BX w' b N (List.replicate n.toNat none) ∧ (∀ i, N i → w.heap.size ≤ i) ∧ Below w.heap.size w w'
  newBad : ∀ (n : Int) (w : World), ¬ (1 ≤ n ∧ n ≤ 4096) → I64 n → Calls Try.prog 14 #[.int .i64 n] w fun e w' => e = .returned (.tuple #[.pointer none, .int .i64 1]) ∧ Below w.heap.size w w'
  put : ∀ {w : World} {b : Nat} {N : Nat → Prop} {st : BoxS} (p : PartD), BX w b N st → PartOk p → Calls Try.prog 19 #[.pointer (some ⟨b, 0, none⟩), partV p] w fun e w' => ∃ N', e = .returned (.int .i64 (putE st p)) ∧ BX w' b N' (putB' st p) ∧ (∀ i, N' i → N i ∨ w.heap.size ≤ i) ∧ Kept N w w'
  of : ∀ {w : World} {b : Nat} {N : Nat → Prop} {st : BoxS}, BX w b N st → Calls Try.prog 15 #[.pointer (some ⟨b, 0, none⟩)] w fun e w' => e = .returned (.int .i64 (st.length : Nat)) ∧ Below w.heap.size w w'
  left : ∀ {w : World} {b : Nat} {N : Nat → Prop} {st : BoxS}, BX w b N st → Calls Try.prog 16 #[.pointer (some ⟨b, 0, none⟩)] w fun e w' => e = .returned (.int .i64 (leftB st : Nat)) ∧ Below w.heap.size w w'
  missing : ∀ {w : World} {b : Nat} {N : Nat → Prop} {st : BoxS} (most : Int), BX w b N st → I64 most → Calls Try.prog 20 #[.pointer (some ⟨b, 0, none⟩), .int .i64 most] w fun e w' => ∃ v', e = .returned v' ∧ OwnN encI1 1 w' w.heap.size 3 v' ((missN st most).map (fun i : Nat => (i : Int))) ∧ Below w.heap.size w w'
  text : ∀ {w : World} {b : Nat} {N : Nat → Prop} {st : BoxS}, BX w b N st → Calls Try.prog 21 #[.pointer (some ⟨b, 0, none⟩)] w fun e w' => e = .returned (.tuple #[.string ⟨(textB st).toArray⟩, .int .i64 (textE st)]) ∧ Below w.heap.size w w'
  clear : ∀ {w : World} {b : Nat} {N : Nat → Prop} {st : BoxS}, BX w b N st → Calls Try.prog 22 #[.pointer (some ⟨b, 0, none⟩)] w fun e w' => ∃ N', e = .returned (.tuple #[]) ∧ BX w' b N' (List.replicate st.length none) ∧ (∀ i, N' i → N i ∨ w.heap.size ≤ i) ∧ Kept N w w'
/-- A nil box. -/
structure NilC : Prop where
  put : ∀ (p : PartD) (w : World), PartOk p → Calls Try.prog 19 #[.pointer none, partV p] w fun e w' => e = .returned (.int .i64 1) ∧ Below w.heap.size w w'
  of : ∀ (w : World), Calls Try.prog 15 #[.pointer none] w fun e w' => e = .returned (.int .i64 0) ∧ Below w.heap.size w w'
  left : ∀ (w : World), Calls Try.prog 16 #[.pointer none] w fun e w' => e = .returned (.int .i64 0) ∧ Below w.heap.size w w'
  missing : ∀ (most : Int) (w : World), I64 most → Calls Try.prog 20 #[.pointer none, .int .i64 most] w fun e w' => ∃ v', e = .returned v' ∧ OwnN encI1 1 w' w.heap.size 3 v' [] ∧ Below w.heap.size w w'
  text : ∀ (w : World), Calls Try.prog 21 #[.pointer none] w fun e w' => e = .returned (.tuple #[.string ⟨#[]⟩, .int .i64 1]) ∧ Below w.heap.size w w'
  clear : ∀ (w : World), Calls Try.prog 22 #[.pointer none] w fun e w' => e = .returned (.tuple #[]) ∧ Below w.heap.size w w'
end Go.Proofs.Ytiknfohadnjkiaa
