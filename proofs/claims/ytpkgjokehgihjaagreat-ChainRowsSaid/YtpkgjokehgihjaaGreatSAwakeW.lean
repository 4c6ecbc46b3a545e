/- The walk of the law's awake. -/
import Derived.Test.YtpkgjokehgihjaaGreatBookW
import Derived.Test.YtpkgjokehgihjaaGreatBooksW
import Derived.Test.YtpkgjokehgihjaaGreatFrame
import Derived.Test.YtpkgjokehgihjaaGreatGen
import Derived.Test.YtpkgjokehgihjaaGreatMarkMath
import Derived.Test.YtpkgjokehgihjaaGreatOwnL
import Derived.Test.YtpkgjokehgihjaaGreatRows
import Derived.Test.YtpkgjokehgihjaaGreatShelf
import Derived.Test.YtpkgjokehgihjaaGreatSignAW
import Derived.Test.YtpkgjokehgihjaaGreatSignBW
import Derived.Test.YtpkgjokehgihjaaGreatSignMath
import Derived.Test.YtpkgjokehgihjaaGreatSignW
import Derived.BigQuiet
import Derived.Deep.AppendLies
import Derived.Deep.QuietTactic
import Derived.IntWalk
import Derived.Laws.BitsAllLaws
import Derived.Laws.MakeOwn
import Derived.Laws.Rows
import Derived.Laws.Tables
import Derived.Lib.Hide
import Derived.Outline
import Derived.StillTailTactics
import Derived.WalkKit
import Derived.WalkLawsBesides
import Derived.WalkSpells
set_option linter.unusedVariables false
namespace Go.Proofs.YtpkgjokehgihjaaGreat
open Go.RowKit

theorem below_alloc {a w : World} (h : Below a.heap.size a w) (o : Obj) : Below a.heap.size a (w.alloc o) := h.alloc h.size o
theorem below_set {a w : World} {B : Nat} (h : Below B a w) {b i : Nat} (hb : B ≤ b) (v : Value) : Below B a (w.setCell ⟨b, i, none⟩ v) := h.setCell (p := ⟨b, i, none⟩) hb v



/-- Forty bytes. -/
def l40 : Txt := List.replicate 40 0
theorem l40_len : l40.length = 40 := by decide
theorem l40_blk : (cutS 16 l40).length = 3 := by rw [cutS_length 16 (by decide), l40_len]
theorem make40 : ∃ Z : Array Value, Z = (cellsOf l40).toArray ∧ ∀ W : World, (Instr.makeSlice 54 (.int .i64 40) (.int .i64 40)).run Tryz.prog W = .ok (.slice (some ⟨W.heap.size, 0, none⟩) 40 40) (W.alloc (.cells Z 5)) := by
  refine ⟨#[.int .u8 0, .int .u8 0, .int .u8 0, .int .u8 0, .int .u8 0, .int .u8 0, .int .u8 0, .int .u8 0, .int .u8 0, .int .u8 0, .int .u8 0, .int .u8 0, .int .u8 0, .int .u8 0, .int .u8 0, .int .u8 0, .int .u8 0, .int .u8 0, .int .u8 0, .int .u8 0, .int .u8 0, .int .u8 0, .int .u8 0, .int .u8 0, .int .u8 0, .int .u8 0, .int .u8 0, .int .u8 0, .int .u8 0, .int .u8 0, .int .u8 0, .int .u8 0, .int .u8 0, .int .u8 0, .int .u8 0, .int .u8 0, .int .u8 0, .int .u8 0, .int .u8 0, .int .u8 0], rfl, fun W => ?_⟩
  kernel_rfl
theorem conv40 {Z : Array Value} (hZ : Z = (cellsOf l40).toArray) {W : World} {g : Nat} (h : W.heap[g]? = some (.cells Z 5 (0, 0))) :
    (convert 54 9 (.slice (some ⟨g, 0, none⟩) 40 40)).run Tryz.prog W = .ok (.string ⟨l40.toArray⟩) W := by
  have := run_convert_bytes_back W 54 9 5 ⟨g, 0, none⟩ 40 l40 Tryz.underlying54 Tryz.underlying5 Tryz.underlying9 (fun j hj => by
    rw [addr_add0, cell_of_row _ _ _ _ _ _ h, hZ]
    unfold cellsOf
    simp [hj])
  rw [l40_len] at this
  exact this
theorem sign40 (W : World) (p bm : Nat) (h : IdealAt W p bm []) :
    Calls Tryz.prog 22 #[.pointer (some ⟨p, 0, none⟩), .string ⟨l40.toArray⟩, .int .i64 16] W fun e w2 => ∃ a1 c1 a2 c2, e = .returned (.tuple #[sigV 16 40 (.slice a1 3 c1) (.slice a2 3 c2), .int .i64 0]) ∧ Kept (FI p bm []) W w2 := by
  have S := sign_ok (book_ideal p bm) 16 l40 W [] (by decide) (by decide) (by rw [l40_len]; decide) h (by unfold okI; rw [l40_blk]; decide)
  refine S.mono ?_
  rintro e w2 ⟨vw, vs, ms, s, rfl, h1, h2, h3, _, h4, _⟩
  obtain ⟨a1, c1, rfl, _⟩ := OwnL.row h1
  obtain ⟨a2, c2, rfl, _⟩ := OwnL.row h2
  rw [h3.length, List.length_map, l40_blk, l40_len]
  exact ⟨a1, c1, a2, c2, rfl, h4⟩
theorem isB_257 : IsB 257 1 := ⟨by decide, fun j hj => by match j, hj with | 0, _ => decide | j + 1, h => omega, .inr (by decide)⟩

end Go.Proofs.YtpkgjokehgihjaaGreat
