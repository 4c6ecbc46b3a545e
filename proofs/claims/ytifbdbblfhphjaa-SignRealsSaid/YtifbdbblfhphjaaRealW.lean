/- A real book: made, asked. -/
import Derived.Test.YtifbdbblfhphjaaBookW
import Derived.Test.YtifbdbblfhphjaaFrame
import Derived.Test.YtifbdbblfhphjaaGen
import Derived.Test.YtifbdbblfhphjaaMarkMath
import Derived.Test.YtifbdbblfhphjaaShaP
import Derived.Test.YtifbdbblfhphjaaOwnL
import Derived.Test.YtifbdbblfhphjaaRows
import Derived.Test.YtifbdbblfhphjaaShelf
import Derived.BigQuiet
import Derived.Deep.QuietTactic
import Derived.IntWalk
import Derived.Laws.BitsAllLaws
import Derived.Laws.CopyRow
import Derived.Laws.IdiomCopy
import Derived.Laws.Rows
import Derived.Laws.Tables
import Derived.Lib.Hide
import Derived.Lib.SliceRun
import Derived.Outline
import Derived.StillTailTactics
import Derived.WalkKit
import Derived.WalkLawsBesides
import Derived.WalkSpells
set_option linter.unusedVariables false
namespace Go.Proofs.Ytifbdbblfhphjaa
open Go.RowKit

/-- A real book in block p, its numbers in block kb. -/
structure RealAt (w : World) (p kb : Nat) : Prop where
  book : BookAt w p (some ⟨kb, 0, none⟩) none
  sums : SumsAt w kb HL KL
theorem RealAt.lt {w : World} {p kb : Nat} (h : RealAt w p kb) : p < w.heap.size ∧ kb < w.heap.size := ⟨(Array.getElem?_eq_some_iff.1 h.book).1, (Array.getElem?_eq_some_iff.1 h.sums).1⟩
theorem RealAt.kept {w w' : World} {M : Nat → Prop} {p kb : Nat} (h : RealAt w p kb) (hk : Kept M w w') (hp : ¬ M p) (hm : ¬ M kb) : RealAt w' p kb :=
  ⟨(hk.block p h.lt.1 hp).trans h.book, (hk.block kb h.lt.2 hm).trans h.sums⟩
theorem RealAt.new {w w' : World} {p kb : Nat} (h : RealAt w p kb) (hb : Below w.heap.size w w') : RealAt w' p kb := h.kept (Kept.new hb (fun _ => False)) id id
/-- A real book's mark of a text. -/
def realM (l : Txt) : Txt := shaS KL H0 l

set_option maxRecDepth 100000 in
theorem real_any (w : World) : Calls Try.prog 25 #[] w fun e w' => ∃ p kb, e = .returned (.pointer (some ⟨p, 0, none⟩)) ∧ RealAt w' p kb ∧ w.heap.size ≤ p ∧ w.heap.size ≤ kb ∧ Below w.heap.size w w' := by
  have N := Lib.hid (newSums_any w)
  go_enter Try.func25, Try.ntmps25
  go_wp2_with fail
  refine N.out.mono ?_
  rintro e w1 ⟨kb, rfl, hkb, hs, hb1⟩
  have hb2 : Below w.heap.size w (w1.alloc (.cells #[.pointer (some ⟨kb, 0, none⟩), .map none] 67)) := hb1.alloc hb1.size _
  have hnew : BookAt (w1.alloc (.cells #[.pointer (some ⟨kb, 0, none⟩), .map none] 67)) w1.heap.size (some ⟨kb, 0, none⟩) none := heap_alloc_new _ _
  have hlt : kb < w1.heap.size := (Array.getElem?_eq_some_iff.1 hs).1
  have hold : SumsAt (w1.alloc (.cells #[.pointer (some ⟨kb, 0, none⟩), .map none] 67)) kb HL KL := (((Below.refl w1.heap.size w1).alloc (Nat.le_refl _) _).block kb hlt).trans hs
  have HB2 := Lib.hid hb2
  have HN := Lib.hid hnew
  have HO := Lib.hid hold
  have HS := Lib.hid hb1.size
  clear hb2 hnew hold hs hb1 hlt N
  go_wp2_with fail
  go_ret
  exact ⟨w1.heap.size, kb, rfl, ⟨HN.out, HO.out⟩, HS.out, hkb, HB2.out⟩

theorem mark_real (w : World) (p kb : Nat) (s : Txt) (h : RealAt w p kb) (hl : s.length ≤ 1000000) :
    Calls Try.prog 43 #[.pointer (some ⟨p, 0, none⟩), .string ⟨s.toArray⟩] w fun e w' => e = .returned (.string ⟨(realM s).toArray⟩) ∧ Below w.heap.size w w' := by
  have C1 := Lib.hid (isReal_any w p _ _ h.book)
  have C3 := Lib.hid (of_any kb H0 KL s w H0_ok KL_length KL_lt hl h.sums)
  have c0 := h.book.c0
  unfold realM
  generalize shaS KL H0 s = r at *
  clear h
  go_enter Try.func43, Try.ntmps43
  go_wp2_with fail
  refine C1.out.mono ?_
  rintro e w' ⟨rfl, rfl⟩
  go_wp2_with fail
  refine C3.out.mono ?_
  rintro e w1 ⟨rfl, hb1⟩
  have HB := Lib.hid hb1; clear hb1
  go_wp2_with fail
  go_ret
  exact ⟨rfl, HB.out⟩

theorem is_real (w : World) (p kb : Nat) (s m : Txt) (h : RealAt w p kb) (hl : s.length ≤ 1000000) :
    Calls Try.prog 23 #[.pointer (some ⟨p, 0, none⟩), .string ⟨s.toArray⟩, .string ⟨m.toArray⟩] w fun e w' => e = .returned (.bool (decide (realM s = m))) ∧ Below w.heap.size w w' := by
  have C1 := Lib.hid (isReal_any w p _ _ h.book)
  have C3 := Lib.hid (of_any kb H0 KL s w H0_ok KL_length KL_lt hl h.sums)
  have c0 := h.book.c0
  unfold realM
  generalize shaS KL H0 s = r at *
  clear h
  go_enter Try.func23, Try.ntmps23
  go_wp2_with fail
  refine C1.out.mono ?_
  rintro e w' ⟨rfl, rfl⟩
  go_wp2_with fail
  refine C3.out.mono ?_
  rintro e w1 ⟨rfl, hb1⟩
  have HB := Lib.hid hb1; clear hb1
  go_wp2_with fail
  go_ret
  exact ⟨ret_bool (by rw [Bool.eq_iff_iff]; simp), HB.out⟩

end Go.Proofs.Ytifbdbblfhphjaa
