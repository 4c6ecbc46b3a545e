/- The walk of the law MarksReals: both real books answer alike. -/
import Derived.Test.YtifbdbblfhphjaaBookW
import Derived.Test.YtifbdbblfhphjaaCells
import Derived.Test.YtifbdbblfhphjaaFrame
import Derived.Test.YtifbdbblfhphjaaGen
import Derived.Test.YtifbdbblfhphjaaMarkMath
import Derived.Test.YtifbdbblfhphjaaShaP
import Derived.Test.YtifbdbblfhphjaaOwnL
import Derived.Test.YtifbdbblfhphjaaShaR
import Derived.Test.YtifbdbblfhphjaaRealW
import Derived.Test.YtifbdbblfhphjaaRefBookW
import Derived.Test.YtifbdbblfhphjaaRowB
import Derived.Test.YtifbdbblfhphjaaRows
import Derived.Test.YtifbdbblfhphjaaShelf
import Derived.BigQuiet
import Derived.Deep.CutBlock
import Derived.Deep.DeepCutAuto
import Derived.Deep.QuietTactic
import Derived.Deep.RegionHeld3
import Derived.Deep.Slices
import Derived.IntWalk
import Derived.Laws.BitsAllLaws
import Derived.Laws.CopyRow
import Derived.Laws.IdiomCopy
import Derived.Laws.Rows
import Derived.Laws.Tables
import Derived.Lib.Hide
import Derived.Lib.SliceRun
import Derived.Lib.SmallJoins
import Derived.Outline
import Derived.StillTail
import Derived.StillTailTactics
import Derived.WalkKit
import Derived.WalkLawsBesides
import Derived.WalkSpells
set_option linter.unusedVariables false
namespace Go.Proofs.Ytifbdbblfhphjaa
open Go.RowKit

/-- The document's own real book in block q. -/
def RefRealAt (w : World) (q : Nat) : Prop := w.heap[q]? = some (.cells #[.bool true, .slice none 0 0] 38 (0, 0))
theorem RefRealAt.c0 {w : World} {q : Nat} (h : RefRealAt w q) : w.cell? ⟨q, 0, none⟩ = some (.bool true) := by rw [cell_of_row _ _ _ _ _ _ h]; rfl
theorem RefRealAt.new {w w' : World} {q : Nat} (h : RefRealAt w q) (hb : Below w.heap.size w w') : RefRealAt w' q := (hb.block q (Array.getElem?_eq_some_iff.1 h).1).trans h
structure Reals (p kb q : Nat) (w : World) : Prop where
  a : RealAt w p kb
  b : RefRealAt w q
theorem Reals.new {p kb q : Nat} {w w' : World} (h : Reals p kb q w) (hb : Below w.heap.size w w') : Reals p kb q w' := ⟨h.a.new hb, h.b.new hb⟩

theorem refMark_real (w : World) (q : Nat) (s : Txt) (h : RefRealAt w q) (hl : s.length ≤ 1000000) :
    Calls Try.prog 44 #[.pointer (some ⟨q, 0, none⟩), .string ⟨s.toArray⟩] w fun e w' => e = .returned (.string ⟨(realM s).toArray⟩) ∧ Below w.heap.size w w' := by
  have C1 := Lib.hid (refSum_any s w hl)
  have c0 := h.c0
  unfold realM
  generalize shaS KL H0 s = r at *
  clear h
  go_enter Try.func44, Try.ntmps44
  go_wp2_with fail
  refine C1.out.mono ?_
  rintro e w1 ⟨rfl, hb1⟩
  have HB := Lib.hid hb1; clear hb1
  go_wp2_with fail
  go_ret
  exact ⟨rfl, HB.out⟩

theorem refReal_new (w : World) : RefRealAt (w.alloc (.cells #[.bool true, .slice none 0 0] 38)) w.heap.size := heap_alloc_new _ _

end Go.Proofs.Ytifbdbblfhphjaa
