/- The walks of the seventh layer's small and awake. -/
import Derived.Test.YtpkgjokehgihjaaMkX
import Derived.Test.YtpkgjokehgihjaaTyX
import Derived.Test.YtpkgjokehgihjaaDelX
import Derived.Test.YtpkgjokehgihjaaFrame
import Derived.Test.YtpkgjokehgihjaaGen
import Derived.Test.YtpkgjokehgihjaaMarkMath
import Derived.Test.YtpkgjokehgihjaaOwnL
import Derived.Test.YtpkgjokehgihjaaProg
import Derived.Test.YtpkgjokehgihjaaRightDW
import Derived.Test.YtpkgjokehgihjaaRollMath
import Derived.Test.YtpkgjokehgihjaaRowKeep
import Derived.Test.YtpkgjokehgihjaaRows
import Derived.Test.YtpkgjokehgihjaaShelf
import Derived.Test.YtpkgjokehgihjaaSigAt
import Derived.Test.YtpkgjokehgihjaaSignMath
import Derived.Test.YtpkgjokehgihjaaStepW
import Derived.BigQuiet
import Derived.BigRegion
import Derived.Deep.CutBlock
import Derived.Deep.DeepCutAuto
import Derived.Deep.QuietTactic
import Derived.Deep.RegionLaw
import Derived.IntWalk
import Derived.Laws.BitsAllLaws
import Derived.Laws.Rows
import Derived.Laws.Tables
import Derived.Lib.Hide
import Derived.Outline
import Derived.StillTailTactics
import Derived.WalkKit
import Derived.WalkLawsBesides
import Derived.WalkSpells
set_option linter.unusedVariables false
namespace Go.Proofs.Ytpkgjokehgihjaa
open Go.RowKit

/-! ### awake -/
def awkL : List DSt := [⟨0, 0, [97]⟩, ⟨0, 0, [98]⟩, ⟨0, 4, []⟩, ⟨4, 2, []⟩]
theorem awk_tidy : tidyS awkL = [⟨0, 0, [97, 98]⟩, ⟨0, 6, []⟩] := by
  have e : gatherS [] [97, 98] = [txtSt [97, 98]] := by rw [gather_cons _ _ (by decide)]; exact gather_nil _
  have s2 : ([⟨0, 0, [97]⟩, ⟨0, 0, [98]⟩] : List DSt).foldl tidX ([], []) = ([], [97, 98]) := rfl
  have s3 : tidX (([], [97, 98]) : List DSt × Txt) ⟨0, 4, []⟩ = (takeS (gatherS [] [97, 98]) 0 4, []) := rfl
  have s4 : tidX (([txtSt [97, 98], ⟨0, 4, []⟩], []) : List DSt × Txt) ⟨4, 2, []⟩ = (takeS (gatherS [txtSt [97, 98], ⟨0, 4, []⟩] []) 4 2, []) := rfl
  have t1 : takeS [txtSt [97, 98]] 0 4 = [txtSt [97, 98], ⟨0, 4, []⟩] := rfl
  show tidE ((([⟨0, 4, []⟩, ⟨4, 2, []⟩] : List DSt)).foldl tidX (([⟨0, 0, [97]⟩, ⟨0, 0, [98]⟩] : List DSt).foldl tidX ([], []))) = _
  rw [s2, List.foldl_cons, s3, e, t1, List.foldl_cons, s4, gather_nil, List.foldl_nil]
  show gatherS (takeS [txtSt [97, 98], ⟨0, 4, []⟩] 4 2) [] = _
  rw [gather_nil]
  rfl
set_option maxRecDepth 100000 in
set_option maxHeartbeats 1000000 in
theorem awake7_any (w : World) : Calls Try.prog 22 #[] w fun e w' => e = .returned (.bool true) ∧ Below w.heap.size w w' := by
  have hb := below_self_alloc w (.cells #[.int .i64 0, .int .i64 0, .string ⟨#[97]⟩, .int .i64 0, .int .i64 0, .string ⟨#[98]⟩, .int .i64 0, .int .i64 4, .string ⟨#[]⟩, .int .i64 4, .int .i64 2, .string ⟨#[]⟩] 61 (0, 0))
  have hg := heap_alloc_new w (.cells #[.int .i64 0, .int .i64 0, .string ⟨#[97]⟩, .int .i64 0, .int .i64 0, .string ⟨#[98]⟩, .int .i64 0, .int .i64 4, .string ⟨#[]⟩, .int .i64 4, .int .i64 2, .string ⟨#[]⟩] 61 (0, 0))
  have hrow : RowS (fun _ => True) (w.alloc (.cells #[.int .i64 0, .int .i64 0, .string ⟨#[97]⟩, .int .i64 0, .int .i64 0, .string ⟨#[98]⟩, .int .i64 0, .int .i64 4, .string ⟨#[]⟩, .int .i64 4, .int .i64 2, .string ⟨#[]⟩] 61 (0, 0))) (.slice (some ⟨w.heap.size, 0, none⟩) 4 4) awkL := by
    refine ⟨_, _, rfl, fun i hi => ⟨w.heap.size, 0, rfl, trivial, ?_⟩⟩
    match i, hi with
    | 0, _ => exact ⟨by rw [cell_of_row _ _ _ _ _ _ hg]; rfl, by rw [cell_of_row _ _ _ _ _ _ hg]; rfl, by rw [cell_of_row _ _ _ _ _ _ hg]; rfl⟩
    | 1, _ => exact ⟨by rw [cell_of_row _ _ _ _ _ _ hg]; rfl, by rw [cell_of_row _ _ _ _ _ _ hg]; rfl, by rw [cell_of_row _ _ _ _ _ _ hg]; rfl⟩
    | 2, _ => exact ⟨by rw [cell_of_row _ _ _ _ _ _ hg]; rfl, by rw [cell_of_row _ _ _ _ _ _ hg]; rfl, by rw [cell_of_row _ _ _ _ _ _ hg]; rfl⟩
    | 3, _ => exact ⟨by rw [cell_of_row _ _ _ _ _ _ hg]; rfl, by rw [cell_of_row _ _ _ _ _ _ hg]; rfl, by rw [cell_of_row _ _ _ _ _ _ hg]; rfl⟩
  have TD := Lib.hid (tidy_any (fun _ => True) _ awkL _ hrow (fun x hx => by
    simp only [awkL, List.mem_cons, List.not_mem_nil, or_false] at hx
    rcases hx with rfl | rfl | rfl | rfl <;> exact ⟨by decide, by decide, by decide, by decide, by decide⟩) (by decide) (by decide))
  rw [awk_tidy] at TD
  have HB := Lib.hid hb
  clear hb hg hrow
  go_enter Try.func22, Try.ntmps22
  go_wp2_with fail
  refine TD.out.mono ?_
  rintro e w2 ⟨v', rfl, ho, hb2⟩
  have HB2 := Lib.hid (HB.out.trans (hb2.mono HB.out.size))
  obtain ⟨g, o, c, rfl, _, h0⟩ := ho.row.at (i := 0) (by decide)
  obtain ⟨g', o', c', hv, _, h1⟩ := ho.row.at (i := 1) (by decide)
  injection hv with hv1 _ _
  injection hv1 with hv1
  injection hv1 with e1 e2
  subst e1
  subst e2
  obtain ⟨x0, x1, x2⟩ := h0
  obtain ⟨y0, y1, y2⟩ := h1
  have x2' : w2.cell? ⟨g, o + 0 * 3 + 2, none⟩ = some (.string ⟨#[97, 98]⟩) := x2
  have y0' : w2.cell? ⟨g, o + 1 * 3, none⟩ = some (.int .i64 0) := y0
  have y1' : w2.cell? ⟨g, o + 1 * 3 + 1, none⟩ = some (.int .i64 6) := y1
  have y2' : w2.cell? ⟨g, o + 1 * 3 + 2, none⟩ = some (.string ⟨#[]⟩) := y2
  clear x0 x1 x2 y0 y1 y2 ho hb2
  simp only [Nat.zero_mul, Nat.one_mul, Nat.add_zero, Nat.add_assoc, Nat.reduceAdd] at x2' y0' y1' y2'
  go_wp2_with fail
  go_ret
  exact ⟨rfl, HB2.out⟩
/-! ### small -/
structure SmallL (l : List DSt) : Prop where
  len : l.length ≤ 100
  wt : wtA l ≤ 6000
def SmallP (l : List DSt) (w : World) (e : Ending) (w' : World) : Prop := ∃ b : Bool, e = .returned (.bool b) ∧ (b = true → SmallL l) ∧ Below w.heap.size w w'
set_option maxRecDepth 100000 in
set_option maxHeartbeats 1000000 in
theorem small7_any (N : Nat → Prop) (bm mm : Txt) (n : Int) (v : Value) (l : List DSt) (w : World) (h : RowS N w v l) (hok : ∀ x ∈ l, StOk x) (hl : l.length ≤ 140737488351232) :
    Calls Try.prog 21 #[delW bm mm n v] w (SmallP l w) := by
  have ba := below_self_alloc w (delO bm mm n v)
  obtain ⟨d0, d1, d2, d3⟩ := delO_cells (heap_alloc_new w (delO bm mm n v))
  have HR := Lib.hid (h.keep ba)
  have HB := Lib.hid ba
  have HK := Lib.hid hok
  obtain ⟨a, c, rfl⟩ := h.slice
  clear ba h hok
  go_enter Try.func21, Try.ntmps21
  go_wp2_with fail
  generalize w.alloc (.cells #[.string ⟨bm.toArray⟩, .string ⟨mm.toArray⟩, .int .i64 n, .slice a l.length c] 24) = w1 at *
  go_loopw [3, 4] (fun sn si wr => ∃ k : Nat, k ≤ l.length ∧ k ≤ 100 ∧ si = .int .i64 k ∧ sn = .int .i64 (wtA (l.take k) : Nat) ∧ wtA (l.take k) ≤ 6000 ∧ wr = w1) (fun _ si _ => l.length - (intOf si).toNat)
  case atStart => exact ⟨0, by omega, by omega, rfl, rfl, by simp [wtA], rfl⟩
  case round =>
    obtain ⟨k, hk, hk1, rfl, rfl, hw, rfl⟩ := hrel
    by_cases hlt : k < l.length
    · obtain ⟨g, o, c', hv, _, hst⟩ := HR.out.at hlt
      injection hv with hv1 hv2 hv3
      subst hv1
      clear hv2 hv3
      obtain ⟨e0, e1, e2⟩ := hst
      have hx := HK.out l[k] (List.getElem_mem _)
      have NX := Lib.hid (wt_take l k hlt)
      generalize l[k] = x at *
      have WX := Lib.hid (show wtS x = x.txt.length + x.len.toNat from rfl)
      have hx1 := hx.l1
      have hx2 := hx.l2
      have hx3 := hx.t
      obtain ⟨p, m, t⟩ := x
      dsimp only at e0 e1 e2 WX hx1 hx2 hx3
      have TL : (⟨t.toArray⟩ : ByteArray).size = t.length := rfl
      obtain ⟨q, hq⟩ : ∃ q, q = wtA (l.take k) := ⟨_, rfl⟩
      rw [← hq] at NX hw ⊢
      clear hq hx
      have i0 : (0 : Int) ≤ (k : Int) := by omega
      have i1 : (k : Int) < (l.length : Int) := by omega
      by_cases h1 : k < 100
      · have j1 : ¬ (100 : Int) ≤ (k : Int) := by omega
        by_cases h2 : m ≤ 3000
        · have j2 : ¬ (3000 : Int) < m := by omega
          by_cases h3 : t.length ≤ 4096
          · have j3 : ¬ (4096 : Int) < (t.length : Int) := by omega
            have W1 : IntKind.i64.wrap ((q : Int) + (t.length : Int)) = (q : Int) + (t.length : Int) := by rw [IntKind.wrap_i64]; omega
            by_cases h4 : 0 < m
            · have W2 : IntKind.i64.wrap ((q : Int) + (t.length : Int) + m) = (q : Int) + (t.length : Int) + m := by rw [IntKind.wrap_i64]; omega
              have HWN := Lib.hid (show wtA (l.take (k + 1)) = q + (t.length + m.toNat) by rw [NX.out, WX.out])
              by_cases h5 : q + (t.length + m.toNat) ≤ 6000
              · have j5 : ¬ (6000 : Int) < (q : Int) + (t.length : Int) + m := by omega
                go_wp2_with fail
                go_roundw
                case rel => exact ⟨k + 1, by omega, by omega, by go_num, by rw [HWN.out]; first | rfl | (congr 1; omega), by rw [HWN.out]; exact h5, by first | rfl | trivial⟩
                case measure => simp [intOf]; omega
              · have j5 : (6000 : Int) < (q : Int) + (t.length : Int) + m := by omega
                go_wp2_with fail
                go_ret
                exact ⟨false, rfl, fun h => (by cases h), HB.out⟩
            · have HWN := Lib.hid (show wtA (l.take (k + 1)) = q + t.length by rw [NX.out, WX.out]; omega)
              by_cases h5 : q + t.length ≤ 6000
              · have j5 : ¬ (6000 : Int) < (q : Int) + (t.length : Int) := by omega
                go_wp2_with fail
                go_roundw
                case rel => exact ⟨k + 1, by omega, by omega, by go_num, by rw [HWN.out]; first | rfl | (congr 1; omega), by rw [HWN.out]; exact h5, by first | rfl | trivial⟩
                case measure => simp [intOf]; omega
              · have j5 : (6000 : Int) < (q : Int) + (t.length : Int) := by omega
                go_wp2_with fail
                go_ret
                exact ⟨false, rfl, fun h => (by cases h), HB.out⟩
          · have j3 : (4096 : Int) < (t.length : Int) := by omega
            go_wp2_with fail
            go_ret
            exact ⟨false, rfl, fun h => (by cases h), HB.out⟩
        · have j2 : (3000 : Int) < m := by omega
          go_wp2_with fail
          go_ret
          exact ⟨false, rfl, fun h => (by cases h), HB.out⟩
      · have j1 : (100 : Int) ≤ (k : Int) := by omega
        go_wp2_with fail
        go_ret
        exact ⟨false, rfl, fun h => (by cases h), HB.out⟩
    · obtain rfl : k = l.length := by omega
      have i1 : ¬ (l.length : Int) < (l.length : Int) := by omega
      rw [List.take_length] at hw
      have HS := Lib.hid (show SmallL l from ⟨hk1, hw⟩)
      go_wp2_with fail
      go_ret
      exact ⟨true, rfl, fun _ => HS.out, HB.out⟩
end Go.Proofs.Ytpkgjokehgihjaa
