/- Walks of the program's weak sums. -/
import Derived.Test.YtifbdbblfhphjaaGen
import Derived.Test.YtifbdbblfhphjaaRows
import Derived.BigQuiet
import Derived.Deep.QuietTactic
import Derived.IntWalk
import Derived.Laws.BitsAllLaws
import Derived.Laws.Rows
import Derived.Lib.Hide
import Derived.Outline
import Derived.StillTailTactics
import Derived.WalkKit
import Derived.WalkLawsBesides
import Derived.WalkSpells
set_option linter.unusedVariables false
namespace Go.Proofs.Ytifbdbblfhphjaa
open Go.RowKit

/-- A weak sum in a block of its own. -/
def WeakAt (w : World) (p a b : Nat) : Prop := w.heap[p]? = some (.cells #[.int .u16 (a : Int), .int .u16 (b : Int)] 92 (0, 0))

set_option maxRecDepth 100000 in
set_option maxHeartbeats 1000000 in
theorem takeInW_any (p a b c : Nat) (w : World) (ha : a < 65536) (hb : b < 65536) (hc : c < 256) (h : WeakAt w p a b) :
    Calls Try.prog 105 #[.pointer (some ⟨p, 0, none⟩), .int .u8 c] w fun e w' => e = .returned (.tuple #[]) ∧ WeakAt w' p ((a + c) % 65536) ((b + (a + c) % 65536) % 65536) ∧ Kept (· = p) w w' := by
  obtain ⟨x, hx⟩ : ∃ x, (a + c) % 65536 = x := ⟨_, rfl⟩
  obtain ⟨y, hy⟩ : ∃ y, (b + x) % 65536 = y := ⟨_, rfl⟩
  rw [hx, hy]
  have hx1 : x < 65536 := by omega
  have wx : IntKind.u16.wrap ((a : Int) + (c : Int)) = (x : Int) := by rw [IntKind.wrap_u16]; omega
  have wy : IntKind.u16.wrap ((b : Int) + (x : Int)) = (y : Int) := by rw [IntKind.wrap_u16]; omega
  clear hx hy
  have c0 : w.cell? ⟨p, 0, none⟩ = some (.int .u16 (a : Int)) := by rw [cell_of_row _ _ _ _ _ _ h]; rfl
  have f0 := frozen_of_row w p 0 _ _ h
  have h1 := Lib.hid (heap_setCell_same w p 0 _ _ (.int .u16 (x : Int)) h)
  have k1 := Lib.hid ((Kept.refl (· = p) w).setCell (p := ⟨p, 0, none⟩) rfl (.int .u16 (x : Int)))
  have H := Lib.hid h; clear h
  go_enter Try.func105, Try.ntmps105
  go_wp2
  generalize w.setCell ⟨p, 0, none⟩ (.int .u16 (x : Int)) = w1 at *
  clear c0 f0
  have h2 : w1.heap[p]? = some (.cells #[.int .u16 (x : Int), .int .u16 (b : Int)] 92 (0, 0)) := h1.out
  have c0 : w1.cell? ⟨p, 0, none⟩ = some (.int .u16 (x : Int)) := by rw [cell_of_row _ _ _ _ _ _ h2]; rfl
  have c1 : w1.cell? ⟨p, 1, none⟩ = some (.int .u16 (b : Int)) := by rw [cell_of_row _ _ _ _ _ _ h2]; rfl
  have f1 : w1.drew.frozen? ⟨p, 1, none⟩ = false := frozen_of_row w1 p 1 _ _ h2
  have c1d : w1.drew.cell? ⟨p, 1, none⟩ = some (.int .u16 (b : Int)) := c1
  have h3 := Lib.hid (heap_setCell_same w1.drew p 1 _ _ (.int .u16 (y : Int)) h2)
  have k3 := Lib.hid (k1.out.drew.setCell (p := ⟨p, 1, none⟩) rfl (.int .u16 (y : Int)))
  clear h1 h2 k1
  go_still_tail 9, (by kernel_rfl)
  change wpList _ _ _ _ _ w1.drew
  go_wp2
  go_end0
  exact ⟨rfl, h3.out, k3.out⟩

end Go.Proofs.Ytifbdbblfhphjaa
