/- The walk of the document's Same, of two signatures that are one. -/
import Derived.Test.YtpkgjokehgihjaaGreatGen
import Derived.Test.YtpkgjokehgihjaaGreatRows
import Derived.Test.YtpkgjokehgihjaaGreatSigAt
import Derived.Test.YtpkgjokehgihjaaGreatSignAW
import Derived.Lib.Hide
import Derived.OpenShut
import Derived.ProofKit
import Derived.ShutString
import Derived.SizedLaws
import Derived.SliceStrings
import Derived.WalkKit
set_option linter.unusedVariables false
namespace Go.Proofs.YtpkgjokehgihjaaGreat
open Go.RowKit

theorem old_of {W w1 : World} {k : Nat} {o : Obj} (hb : Below W.heap.size W w1) (h : W.heap[k]? = some o) : w1.heap[k]? = some o := (hb.block k (Array.getElem?_eq_some_iff.1 h).1).trans h
theorem heap_later {W : World} {k : Nat} {o : Obj} (h : W.heap[k]? = some o) (o' : Obj) : (W.alloc o').heap[k]? = some o := (heap_alloc_old W o' (Array.getElem?_eq_some_iff.1 h).1).trans h
theorem sig_c0 {w : World} {p : Nat} {b n : Int} {vw vs : Value} (h : w.heap[p]? = some (sigC b n vw vs)) : w.cell? ⟨p, 0, none⟩ = some (.int .i64 b) := by rw [cell_of_row _ _ _ _ _ _ h]; rfl
theorem sig_c1 {w : World} {p : Nat} {b n : Int} {vw vs : Value} (h : w.heap[p]? = some (sigC b n vw vs)) : w.cell? ⟨p, 1, none⟩ = some (.int .i64 n) := by rw [cell_of_row _ _ _ _ _ _ h]; rfl
theorem sig_c2 {w : World} {p : Nat} {b n : Int} {vw vs : Value} (h : w.heap[p]? = some (sigC b n vw vs)) : w.cell? ⟨p, 2, none⟩ = some vw := by rw [cell_of_row _ _ _ _ _ _ h]; rfl
theorem sig_c3 {w : World} {p : Nat} {b n : Int} {vw vs : Value} (h : w.heap[p]? = some (sigC b n vw vs)) : w.cell? ⟨p, 3, none⟩ = some vs := by rw [cell_of_row _ _ _ _ _ _ h]; rfl

end Go.Proofs.YtpkgjokehgihjaaGreat
