/- The walks of the seventh layer's small and awake. -/
import Derived.Test.YtpkgjokehgihjaaGreatMkX
import Derived.Test.YtpkgjokehgihjaaGreatTyX
import Derived.Test.YtpkgjokehgihjaaGreatDelX
import Derived.Test.YtpkgjokehgihjaaGreatFrame
import Derived.Test.YtpkgjokehgihjaaGreatGen
import Derived.Test.YtpkgjokehgihjaaGreatMarkMath
import Derived.Test.YtpkgjokehgihjaaGreatOwnL
import Derived.Test.YtpkgjokehgihjaaGreatProg
import Derived.Test.YtpkgjokehgihjaaGreatRollMath
import Derived.Test.YtpkgjokehgihjaaGreatRowKeep
import Derived.Test.YtpkgjokehgihjaaGreatRows
import Derived.Test.YtpkgjokehgihjaaGreatShelf
import Derived.Test.YtpkgjokehgihjaaGreatSigAt
import Derived.Test.YtpkgjokehgihjaaGreatSignMath
import Derived.BigQuiet
import Derived.BigRegion
import Derived.Deep.CutBlock
import Derived.Deep.DeepCutAuto
import Derived.Deep.QuietTactic
import Derived.Deep.RegionLaw
import Derived.IntWalk
import Derived.Laws.BitsAllLaws
import Derived.Laws.Rows
import Derived.Laws.Tables
import Derived.Lib.Hide
import Derived.Outline
import Derived.StillTailTactics
import Derived.WalkKit
import Derived.WalkLawsBesides
import Derived.WalkSpells
set_option linter.unusedVariables false
namespace Go.Proofs.YtpkgjokehgihjaaGreat
open Go.RowKit

/-! ### awake -/
def awkL : List DSt := [⟨0, 0, [97]⟩, ⟨0, 0, [98]⟩, ⟨0, 4, []⟩, ⟨4, 2, []⟩]
theorem awk_tidy : tidyS awkL = [⟨0, 0, [97, 98]⟩, ⟨0, 6, []⟩] := by
  have e : gatherS [] [97, 98] = [txtSt [97, 98]] := by rw [gather_cons _ _ (by decide)]; exact gather_nil _
  have s2 : ([⟨0, 0, [97]⟩, ⟨0, 0, [98]⟩] : List DSt).foldl tidX ([], []) = ([], [97, 98]) := rfl
  have s3 : tidX (([], [97, 98]) : List DSt × Txt) ⟨0, 4, []⟩ = (takeS (gatherS [] [97, 98]) 0 4, []) := rfl
  have s4 : tidX (([txtSt [97, 98], ⟨0, 4, []⟩], []) : List DSt × Txt) ⟨4, 2, []⟩ = (takeS (gatherS [txtSt [97, 98], ⟨0, 4, []⟩] []) 4 2, []) := rfl
  have t1 : takeS [txtSt [97, 98]] 0 4 = [txtSt [97, 98], ⟨0, 4, []⟩] := rfl
  show tidE ((([⟨0, 4, []⟩, ⟨4, 2, []⟩] : List DSt)).foldl tidX (([⟨0, 0, [97]⟩, ⟨0, 0, [98]⟩] : List DSt).foldl tidX ([], []))) = _
  rw [s2, List.foldl_cons, s3, e, t1, List.foldl_cons, s4, gather_nil, List.foldl_nil]
  show gatherS (takeS [txtSt [97, 98], ⟨0, 4, []⟩] 4 2) [] = _
  rw [gather_nil]
  rfl
set_option maxRecDepth 100000 in
set_option maxHeartbeats 1000000 in
theorem awake7_any (w : World) : Calls Tryz.prog 5 #[] w fun e w' => e = .returned (.bool true) ∧ Below w.heap.size w w' := by
  have hb := below_self_alloc w (.cells #[.int .i64 0, .int .i64 0, .string ⟨#[97]⟩, .int .i64 0, .int .i64 0, .string ⟨#[98]⟩, .int .i64 0, .int .i64 4, .string ⟨#[]⟩, .int .i64 4, .int .i64 2, .string ⟨#[]⟩] 42 (0, 0))
  have hg := heap_alloc_new w (.cells #[.int .i64 0, .int .i64 0, .string ⟨#[97]⟩, .int .i64 0, .int .i64 0, .string ⟨#[98]⟩, .int .i64 0, .int .i64 4, .string ⟨#[]⟩, .int .i64 4, .int .i64 2, .string ⟨#[]⟩] 42 (0, 0))
  have hrow : RowS (fun _ => True) (w.alloc (.cells #[.int .i64 0, .int .i64 0, .string ⟨#[97]⟩, .int .i64 0, .int .i64 0, .string ⟨#[98]⟩, .int .i64 0, .int .i64 4, .string ⟨#[]⟩, .int .i64 4, .int .i64 2, .string ⟨#[]⟩] 42 (0, 0))) (.slice (some ⟨w.heap.size, 0, none⟩) 4 4) awkL := by
    refine ⟨_, _, rfl, fun i hi => ⟨w.heap.size, 0, rfl, trivial, ?_⟩⟩
    match i, hi with
    | 0, _ => exact ⟨by rw [cell_of_row _ _ _ _ _ _ hg]; rfl, by rw [cell_of_row _ _ _ _ _ _ hg]; rfl, by rw [cell_of_row _ _ _ _ _ _ hg]; rfl⟩
    | 1, _ => exact ⟨by rw [cell_of_row _ _ _ _ _ _ hg]; rfl, by rw [cell_of_row _ _ _ _ _ _ hg]; rfl, by rw [cell_of_row _ _ _ _ _ _ hg]; rfl⟩
    | 2, _ => exact ⟨by rw [cell_of_row _ _ _ _ _ _ hg]; rfl, by rw [cell_of_row _ _ _ _ _ _ hg]; rfl, by rw [cell_of_row _ _ _ _ _ _ hg]; rfl⟩
    | 3, _ => exact ⟨by rw [cell_of_row _ _ _ _ _ _ hg]; rfl, by rw [cell_of_row _ _ _ _ _ _ hg]; rfl, by rw [cell_of_row _ _ _ _ _ _ hg]; rfl⟩
  have TD := Lib.hid (tidy_any (fun _ => True) _ awkL _ hrow (fun x hx => by
    simp only [awkL, List.mem_cons, List.not_mem_nil, or_false] at hx
    rcases hx with rfl | rfl | rfl | rfl <;> exact ⟨by decide, by decide, by decide, by decide, by decide⟩) (by decide) (by decide))
  rw [awk_tidy] at TD
  have HB := Lib.hid hb
  clear hb hg hrow
  go_enter Tryz.func5, Tryz.ntmps5
  go_wp2_with fail
  refine TD.out.mono ?_
  rintro e w2 ⟨v', rfl, ho, hb2⟩
  have HB2 := Lib.hid (HB.out.trans (hb2.mono HB.out.size))
  obtain ⟨g, o, c, rfl, _, h0⟩ := ho.row.at (i := 0) (by decide)
  obtain ⟨g', o', c', hv, _, h1⟩ := ho.row.at (i := 1) (by decide)
  injection hv with hv1 _ _
  injection hv1 with hv1
  injection hv1 with e1 e2
  subst e1
  subst e2
  obtain ⟨x0, x1, x2⟩ := h0
  obtain ⟨y0, y1, y2⟩ := h1
  have x2' : w2.cell? ⟨g, o + 0 * 3 + 2, none⟩ = some (.string ⟨#[97, 98]⟩) := x2
  have y0' : w2.cell? ⟨g, o + 1 * 3, none⟩ = some (.int .i64 0) := y0
  have y1' : w2.cell? ⟨g, o + 1 * 3 + 1, none⟩ = some (.int .i64 6) := y1
  have y2' : w2.cell? ⟨g, o + 1 * 3 + 2, none⟩ = some (.string ⟨#[]⟩) := y2
  clear x0 x1 x2 y0 y1 y2 ho hb2
  simp only [Nat.zero_mul, Nat.one_mul, Nat.add_zero, Nat.add_assoc, Nat.reduceAdd] at x2' y0' y1' y2'
  go_wp2_with fail
  go_ret
  exact ⟨rfl, HB2.out⟩
/-! ### small -/
structure SmallL (l : List DSt) : Prop where
  len : l.length ≤ 100
  wt : wtA l ≤ 6000
def SmallP (l : List DSt) (w : World) (e : Ending) (w' : World) : Prop := ∃ b : Bool, e = .returned (.bool b) ∧ (b = true → SmallL l) ∧ Below w.heap.size w w'
end Go.Proofs.YtpkgjokehgihjaaGreat
