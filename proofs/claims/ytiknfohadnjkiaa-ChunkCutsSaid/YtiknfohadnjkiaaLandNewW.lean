/- The landed box (chunk): New. -/
import Derived.Test.YtiknfohadnjkiaaBoxC
import Derived.Test.YtiknfohadnjkiaaChunkBoxM
import Derived.Test.YtiknfohadnjkiaaFrame
import Derived.Test.YtiknfohadnjkiaaGen
import Derived.Test.YtiknfohadnjkiaaLandBox1W
import Derived.Test.YtiknfohadnjkiaaMakeN
import Derived.Test.YtiknfohadnjkiaaOwnL
import Derived.Test.YtiknfohadnjkiaaRefBoxW
import Derived.Test.YtiknfohadnjkiaaRowN
import Derived.Test.YtiknfohadnjkiaaRows
import Derived.BigQuiet
import Derived.Deep.QuietTactic
import Derived.Deep.RegionHeld3
import Derived.Laws.OwnMore
import Derived.Laws.ResultCell
import Derived.Lib.Hide
import Derived.Outline
import Derived.WalkKit
import Derived.WalkLawsBesides
import Derived.WalkSpells
set_option linter.unusedVariables false
namespace Go.Proofs.Ytiknfohadnjkiaa
open Go.RowKit

theorem info_pl13n : (Try.prog.info? 68).map (fun i => (i.zero, i.size, i.bytes)) = some (some (.agg #[.string ByteArray.empty, .bool false]), 2, 24) := by kernel_rfl
/-- A new box: its two blocks. -/
theorem BXF.fresh {w2 : World} {b g n : Nat} (hn : 1 ≤ n ∧ n ≤ 4096)
    (hb : w2.heap[b]? = some (.cells #[.slice (some ⟨g, 0, none⟩) n n, .int .i64 (n : Int), .int .i64 0] 60 (0, 0)))
    (h1 : OwnN encPl 2 w2 0 68 (.slice (some ⟨g, 0, none⟩) n n) (List.replicate n none)) (n1 : b ≠ g) : BXF w2 b g n (List.replicate n none) := by
  have hl : (List.replicate n (none : Option (List UInt8))).length = n := List.length_replicate
  refine ⟨?_, ?_, n1, by rw [hl, allB_none]; simp only [List.length_nil]; omega⟩
  · rw [hl, allB_none, leftB_none]; exact hb
  · rw [hl]; exact h1
set_option maxRecDepth 100000 in
set_option maxHeartbeats 2000000 in
theorem newOk13_any (n : Nat) (w : World) (h1 : 1 ≤ n) (h2 : n ≤ 4096) : Calls Try.prog 14 #[.int .i64 (n : Nat)] w fun e w' => ∃ b N, e = .returned (.tuple #[.pointer (some ⟨b, 0, none⟩), .int .i64 0]) ∧ BX13 w' b N (List.replicate n none) ∧ (∀ i, N i → w.heap.size ≤ i) ∧ Below w.heap.size w w' := by
  obtain ⟨W1, M1⟩ := make_own (P := Try.prog) encPl_ok (by decide) none 58 68 (.agg #[.string ByteArray.empty, .bool false]) 24 n Try.underlying58 info_pl13n rfl (by omega) (by unfold maxLen; omega)
  have R1 := fun X => (M1 X).1
  have HM1 := Lib.hid M1
  clear M1
  have j1 : ¬ (n : Int) < 1 := by omega
  have j2 : ¬ (4096 : Int) < (n : Int) := by omega
  go_enter Try.func14, Try.ntmps14
  go_wp2_with fail
  obtain ⟨p1, p2⟩ := (HM1.out w).2
  have z1 := ((p1.lt (g := w.heap.size) rfl).2.1)
  have hal : Below (W1 w).heap.size (W1 w) ((W1 w).alloc (.cells #[.slice (some ⟨w.heap.size, 0, none⟩) n n, .int .i64 (n : Int), .int .i64 0] 60)) := (Below.refl _ _).alloc (Nat.le_refl _) _
  have q1 := p1.new hal
  have HF := BXF.fresh (b := (W1 w).heap.size) (n := n) (g := w.heap.size) ⟨h1, h2⟩ (heap_alloc_new (W1 w) (.cells #[.slice (some ⟨w.heap.size, 0, none⟩) n n, .int .i64 (n : Int), .int .i64 0] 60)) (q1.mono (Nat.zero_le _)) (by omega)
  have HB := p2.trans (hal.mono p2.size)
  exact bodyPost_ret (results_tmp2 Try.results14 _ _ _) rfl ⟨_, rfl, _, ⟨_, _, HF, fun i => Iff.rfl⟩, fun i hi => by rcases hi with e | e <;> omega, HB⟩
set_option maxRecDepth 100000 in
set_option maxHeartbeats 2000000 in
theorem newBad13_any (n : Int) (w : World) (h : ¬ (1 ≤ n ∧ n ≤ 4096)) (hn : I64 n) : Calls Try.prog 14 #[.int .i64 n] w fun e w' => e = .returned (.tuple #[.pointer none, .int .i64 1]) ∧ Below w.heap.size w w' := by
  go_enter Try.func14, Try.ntmps14
  rcases (show n < 1 ∨ (¬ n < 1 ∧ 4096 < n) by omega) with j1 | ⟨j1, j2⟩
  all_goals
    clear h
    go_wp2_with fail
    exact bodyPost_ret (results_tmp2 Try.results14 _ _ _) rfl ⟨rfl, Below.refl _ _⟩
end Go.Proofs.Ytiknfohadnjkiaa
