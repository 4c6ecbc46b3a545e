/- The walk of the law's awake. -/
import Derived.Test.YtifbdbblfhphjaaBookW
import Derived.Test.YtifbdbblfhphjaaBooksW
import Derived.Test.YtifbdbblfhphjaaFrame
import Derived.Test.YtifbdbblfhphjaaGen
import Derived.Test.YtifbdbblfhphjaaMarkMath
import Derived.Test.YtifbdbblfhphjaaOwnL
import Derived.Test.YtifbdbblfhphjaaRows
import Derived.Test.YtifbdbblfhphjaaSameW
import Derived.Test.YtifbdbblfhphjaaShelf
import Derived.Test.YtifbdbblfhphjaaSigAt
import Derived.Test.YtifbdbblfhphjaaSignAW
import Derived.Test.YtifbdbblfhphjaaSignBW
import Derived.Test.YtifbdbblfhphjaaSignMath
import Derived.Test.YtifbdbblfhphjaaSignW
import Derived.BigQuiet
import Derived.Deep.QuietTactic
import Derived.IntWalk
import Derived.Laws.BitsAllLaws
import Derived.Laws.MakeOwn
import Derived.Laws.Rows
import Derived.Laws.Tables
import Derived.Lib.Hide
import Derived.Outline
import Derived.StillTailTactics
import Derived.WalkKit
import Derived.WalkLawsBesides
import Derived.WalkSpells
set_option linter.unusedVariables false
namespace Go.Proofs.Ytifbdbblfhphjaa
open Go.RowKit

theorem below_alloc {a w : World} (h : Below a.heap.size a w) (o : Obj) : Below a.heap.size a (w.alloc o) := h.alloc h.size o
theorem below_set {a w : World} {B : Nat} (h : Below B a w) {b i : Nat} (hb : B ≤ b) (v : Value) : Below B a (w.setCell ⟨b, i, none⟩ v) := h.setCell (p := ⟨b, i, none⟩) hb v



/-- Forty bytes. -/
def l40 : Txt := List.replicate 40 0
theorem l40_len : l40.length = 40 := by decide
theorem l40_blk : (cutS 16 l40).length = 3 := by rw [cutS_length 16 (by decide), l40_len]
theorem make40 : ∃ Z : Array Value, Z = (cellsOf l40).toArray ∧ ∀ W : World, (Instr.makeSlice 63 (.int .i64 40) (.int .i64 40)).run Try.prog W = .ok (.slice (some ⟨W.heap.size, 0, none⟩) 40 40) (W.alloc (.cells Z 5)) := by
  refine ⟨#[.int .u8 0, .int .u8 0, .int .u8 0, .int .u8 0, .int .u8 0, .int .u8 0, .int .u8 0, .int .u8 0, .int .u8 0, .int .u8 0, .int .u8 0, .int .u8 0, .int .u8 0, .int .u8 0, .int .u8 0, .int .u8 0, .int .u8 0, .int .u8 0, .int .u8 0, .int .u8 0, .int .u8 0, .int .u8 0, .int .u8 0, .int .u8 0, .int .u8 0, .int .u8 0, .int .u8 0, .int .u8 0, .int .u8 0, .int .u8 0, .int .u8 0, .int .u8 0, .int .u8 0, .int .u8 0, .int .u8 0, .int .u8 0, .int .u8 0, .int .u8 0, .int .u8 0, .int .u8 0], rfl, fun W => ?_⟩
  kernel_rfl
theorem conv40 {Z : Array Value} (hZ : Z = (cellsOf l40).toArray) {W : World} {g : Nat} (h : W.heap[g]? = some (.cells Z 5 (0, 0))) :
    (convert 63 9 (.slice (some ⟨g, 0, none⟩) 40 40)).run Try.prog W = .ok (.string ⟨l40.toArray⟩) W := by
  have := run_convert_bytes_back W 63 9 5 ⟨g, 0, none⟩ 40 l40 Try.underlying63 Try.underlying5 Try.underlying9 (fun j hj => by
    rw [addr_add0, cell_of_row _ _ _ _ _ _ h, hZ]
    unfold cellsOf
    simp [hj])
  rw [l40_len] at this
  exact this
theorem sign40 (W : World) (p bm : Nat) (h : IdealAt W p bm []) :
    Calls Try.prog 19 #[.pointer (some ⟨p, 0, none⟩), .string ⟨l40.toArray⟩, .int .i64 16] W fun e w2 => ∃ a1 c1 a2 c2, e = .returned (.tuple #[sigV 16 40 (.slice a1 3 c1) (.slice a2 3 c2), .int .i64 0]) ∧ Kept (FI p bm []) W w2 := by
  have S := sign_ok (book_ideal p bm) 16 l40 W [] (by decide) (by decide) (by rw [l40_len]; decide) h (by unfold okI; rw [l40_blk]; decide)
  refine S.mono ?_
  rintro e w2 ⟨vw, vs, ms, s, rfl, h1, h2, h3, _, h4, _⟩
  obtain ⟨a1, c1, rfl, _⟩ := OwnL.row h1
  obtain ⟨a2, c2, rfl, _⟩ := OwnL.row h2
  rw [h3.length, List.length_map, l40_blk, l40_len]
  exact ⟨a1, c1, a2, c2, rfl, h4⟩
theorem isB_257 : IsB 257 1 := ⟨by decide, fun j hj => by match j, hj with | 0, _ => decide | j + 1, h => omega, .inr (by decide)⟩

set_option maxRecDepth 100000 in
set_option maxHeartbeats 4000000 in
theorem awake_any (w : World) : Calls Try.prog 16 #[] w fun e w' => e = .returned (.bool true) ∧ Below w.heap.size w w' := by
  obtain ⟨Z, hZ0, hmk⟩ := make40
  have HZ := Lib.hid hZ0; clear hZ0
  have BK := fun w' => Lib.hid (show Calls Try.prog 14 #[.int .i64 257] w' fun e w'' => e = .returned (.int .i64 32) ∧ w' = w'' from block_any 257 1 w' isB_257)
  have S40 := fun W p bm h => Lib.hid (sign40 W p bm h)
  have cvA : (convert 63 9 (.slice (some ⟨w.heap.size, 0, none⟩) 40 40)).run Try.prog (w.alloc (.cells Z 5)).drew = .ok (.string ⟨l40.toArray⟩) (w.alloc (.cells Z 5)).drew := conv40 HZ.out (heap_alloc_new _ _)
  have cvB : ∀ o, (convert 63 9 (.slice (some ⟨w.heap.size, 0, none⟩) 40 40)).run Try.prog ((w.alloc (.cells Z 5)).alloc o).drew = .ok (.string ⟨l40.toArray⟩) ((w.alloc (.cells Z 5)).alloc o).drew := fun o => conv40 HZ.out (heap_alloc2_old _ _ _)
  have cvC : ∀ o, (convert 63 9 (.slice (some ⟨w.heap.size + 1, 0, none⟩) 40 40)).run Try.prog ((w.alloc o).alloc (.cells Z 5)).drew = .ok (.string ⟨l40.toArray⟩) ((w.alloc o).alloc (.cells Z 5)).drew := fun o => conv40 HZ.out (heap_alloc2_new _ _ _)
  have CV := Lib.hid (fun (W : World) (g : Nat) (h : W.heap[g]? = some (.cells Z 5 (0, 0))) => conv40 HZ.out h)
  generalize l40 = l at *
  go_enter Try.func16, Try.ntmps16
  go_wp2
  go_region_law (first
    | (go_simp; go_at_call 18; refine (ideal_any _).mono ?_; rintro e w1 ⟨p, bm, rfl, hid1, hp, hbm, hb1⟩
       have HB1 := Lib.hid (show Below w.heap.size w w1 from Below.trans (by repeat (first | exact Below.refl _ _ | refine Below_drew ?_ | refine below_alloc ?_ _)) (hb1.mono (Below.size (show Below w.heap.size w _ by repeat (first | exact Below.refl _ _ | refine Below_drew ?_ | refine below_alloc ?_ _)))))
       have cv1 : (convert 63 9 (.slice (some ⟨w1.heap.size, 0, none⟩) 40 40)).run Try.prog (w1.alloc (.cells Z 5)) = .ok (.string ⟨l.toArray⟩) (w1.alloc (.cells Z 5)) := CV.out _ _ (heap_alloc_new _ _)
       have cv2 : ∀ o, (convert 63 9 (.slice (some ⟨w1.heap.size, 0, none⟩) 40 40)).run Try.prog ((w1.alloc (.cells Z 5)).alloc o) = .ok (.string ⟨l.toArray⟩) ((w1.alloc (.cells Z 5)).alloc o) := fun o => CV.out _ _ (heap_alloc2_old _ _ _)
       have cv3 : ∀ o, (convert 63 9 (.slice (some ⟨w1.heap.size + 1, 0, none⟩) 40 40)).run Try.prog ((w1.alloc o).alloc (.cells Z 5)) = .ok (.string ⟨l.toArray⟩) ((w1.alloc o).alloc (.cells Z 5)) := fun o => CV.out _ _ (heap_alloc2_new _ _ _)
       try have hz0 : w1.heap[w.heap.size]? = some (.cells Z 5 (0, 0)) := by first | exact old_of hb1 (heap_alloc_new _ _) | exact old_of hb1 (heap_alloc2_old _ _ _)
       try have cv4 := CV.out _ _ hz0
       try have cv5 := fun o => CV.out _ _ (heap_later hz0 o)
       try have hz1 : w1.heap[w.heap.size + 1]? = some (.cells Z 5 (0, 0)) := old_of hb1 (heap_alloc2_new _ _ _)
       try have cv6 := CV.out _ _ hz1
       try have cv7 := fun o => CV.out _ _ (heap_later hz1 o)
       try have hs0 : w1.heap[w.heap.size]? = some (sigC 0 0 (.slice none 0 0) (.slice none 0 0)) := by first | exact old_of hb1 (heap_alloc_new _ _) | exact old_of hb1 (heap_alloc2_old _ _ _)
       try have hs1 : w1.heap[w.heap.size + 1]? = some (sigC 0 0 (.slice none 0 0) (.slice none 0 0)) := old_of hb1 (heap_alloc2_new _ _ _)
       have hplt := hid1.lt.1
       have hblt := hid1.lt.2
       have HP := Lib.hid hp
       have HBM := Lib.hid hbm
       have HI := Lib.hid hid1
       clear hp hbm hid1 hb1)
    | (go_simp; go_at_call 19; refine (S40 _ _ _ (by first | exact HI.out | exact HI.out.new ((Below.refl _ _).alloc (Nat.le_refl _) _) | exact (HI.out.new ((Below.refl _ _).alloc (Nat.le_refl _) _)).new ((Below.refl _ _).alloc (Nat.le_refl _) _))).out.mono ?_; rintro e w2 ⟨a1, c1, a2, c2, rfl, hk2⟩
       have HB2 := Lib.hid (show Below w.heap.size w w2 from Below.trans (by repeat (first | exact HB1.out | refine below_alloc ?_ _)) (hk2.below (Below.size (show Below w.heap.size w _ by repeat (first | exact HB1.out | refine below_alloc ?_ _))) (by have := HP.out; have := HBM.out; simp only [World.drew, World.size_alloc] at *; rintro k (e | e) <;> omega)))
       first
         | (have hS : w2.heap[w.heap.size]? = some (sigC 0 0 (.slice none 0 0) (.slice none 0 0)) := hk2.old (by first | exact hs0 | exact heap_later hs0 _) (by have := HP.out; have := HBM.out; simp at *; rintro (e | e) <;> omega); obtain ⟨⟨x1, x2⟩, ⟨x3, x4⟩, ⟨x5, x6⟩, ⟨x7, x8⟩, x9, x10⟩ := sig_store (b' := 16) (n' := 40) (vw' := .slice a1 3 c1) (vs' := .slice a2 3 c2) hS; have x11 := sig_c2 x9; have x12 := sig_c3 x9; clear x9 x10)
         | (have hS : w2.heap[w.heap.size + 1]? = some (sigC 0 0 (.slice none 0 0) (.slice none 0 0)) := hk2.old (by first | exact hs1 | exact heap_later hs1 _) (by have := HP.out; have := HBM.out; simp at *; rintro (e | e) <;> omega); obtain ⟨⟨x1, x2⟩, ⟨x3, x4⟩, ⟨x5, x6⟩, ⟨x7, x8⟩, x9, x10⟩ := sig_store (b' := 16) (n' := 40) (vw' := .slice a1 3 c1) (vs' := .slice a2 3 c2) hS; have x11 := sig_c2 x9; have x12 := sig_c3 x9; clear x9 x10)
         | (have hS : w2.heap[w1.heap.size]? = some (sigC 0 0 (.slice none 0 0) (.slice none 0 0)) := hk2.old (by first | exact heap_alloc_new _ _ | exact heap_alloc2_old _ _ _) (by rintro (e | e) <;> omega); obtain ⟨⟨x1, x2⟩, ⟨x3, x4⟩, ⟨x5, x6⟩, ⟨x7, x8⟩, x9, x10⟩ := sig_store (b' := 16) (n' := 40) (vw' := .slice a1 3 c1) (vs' := .slice a2 3 c2) hS; have x11 := sig_c2 x9; have x12 := sig_c3 x9; clear x9 x10)
         | (have hS : w2.heap[w1.heap.size + 1]? = some (sigC 0 0 (.slice none 0 0) (.slice none 0 0)) := hk2.old (heap_alloc2_new _ _ _) (by rintro (e | e) <;> omega); obtain ⟨⟨x1, x2⟩, ⟨x3, x4⟩, ⟨x5, x6⟩, ⟨x7, x8⟩, x9, x10⟩ := sig_store (b' := 16) (n' := 40) (vw' := .slice a1 3 c1) (vs' := .slice a2 3 c2) hS; have x11 := sig_c2 x9; have x12 := sig_c3 x9; clear x9 x10)
         | skip))
  all_goals
    have q1 := HB1.out.size
    have q2 := HB2.out.size
    go_wp2_with fail
    refine (BK _).out.mono ?_
    rintro e w' ⟨rfl, rfl⟩
    go_wp2
    go_ret
    exact ⟨rfl, by repeat (first | exact HB2.out | refine below_set ?_ (by omega) _ | refine below_alloc ?_ _)⟩
end Go.Proofs.Ytifbdbblfhphjaa
