/- The walk of the law ChainKept. -/
import Derived.Test.YtpkgjokehgihjaaAgX
import Derived.Test.YtpkgjokehgihjaaMkX
import Derived.Test.YtpkgjokehgihjaaTabX
import Derived.Test.YtpkgjokehgihjaaBookW
import Derived.Test.YtpkgjokehgihjaaTyX
import Derived.Test.YtpkgjokehgihjaaCloneStW
import Derived.Test.YtpkgjokehgihjaaSrX
import Derived.Test.YtpkgjokehgihjaaDelX
import Derived.Test.YtpkgjokehgihjaaFrame
import Derived.Test.YtpkgjokehgihjaaGen
import Derived.Test.YtpkgjokehgihjaaNewTabW
import Derived.Test.YtpkgjokehgihjaaOwnL
import Derived.Test.YtpkgjokehgihjaaProg
import Derived.Test.YtpkgjokehgihjaaCdX
import Derived.Test.YtpkgjokehgihjaaRightDW
import Derived.Test.YtpkgjokehgihjaaRollMath
import Derived.Test.YtpkgjokehgihjaaRowKeep
import Derived.Test.YtpkgjokehgihjaaRows
import Derived.Test.YtpkgjokehgihjaaSameW
import Derived.Test.YtpkgjokehgihjaaShelf
import Derived.Test.YtpkgjokehgihjaaSigAt
import Derived.Test.YtpkgjokehgihjaaSigOfW
import Derived.Test.YtpkgjokehgihjaaSignMath
import Derived.Test.YtpkgjokehgihjaaSmall7W
import Derived.Test.YtpkgjokehgihjaaSortX
import Derived.Test.YtpkgjokehgihjaaSortEW
import Derived.Test.YtpkgjokehgihjaaStepW
import Derived.Test.YtpkgjokehgihjaaSeX
import Derived.BigQuiet
import Derived.BigRegion
import Derived.ChangeAlike
import Derived.Deep.CutBlock
import Derived.Deep.DeepCutAuto
import Derived.Deep.LoopGhost
import Derived.Deep.QuietTactic
import Derived.Deep.RegionHeld3
import Derived.Deep.RegionLaw
import Derived.IntWalk
import Derived.Laws.BitsAllLaws
import Derived.Laws.MakeOwn
import Derived.Laws.Rows
import Derived.Laws.Tables
import Derived.Lib.Hide
import Derived.Lib.SmallJoins
import Derived.Outline
import Derived.RegionTactic
import Derived.Sort.Walk0
import Derived.StillTailTactics
import Derived.WalkKit
import Derived.WalkLawsBesides
import Derived.WalkSpells
set_option linter.unusedVariables false
namespace Go.Proofs.Ytpkgjokehgihjaa
open Go.RowKit

/-- The two boxes of a law on two deltas. -/
structure TwoB (w : World) (a b : DD) (v1 v2 : Value) (wr : World) : Prop where
  xa : wr.heap[w.heap.size]? = some (a.o v1)
  xb : wr.heap[w.heap.size + 1]? = some (b.o v2)
  bel : Below w.heap.size w wr
theorem TwoB.new {w wr wr' : World} {a b : DD} {v1 v2 : Value} (h : TwoB w a b v1 v2 wr) (hb : Below wr.heap.size wr wr') : TwoB w a b v1 v2 wr' :=
  ⟨old_of hb h.xa, old_of hb h.xb, h.bel.trans (hb.mono h.bel.size)⟩
theorem two_start (w : World) (a b : DD) (v1 v2 : Value) : TwoB w a b v1 v2 ((w.alloc (a.o v1)).alloc (b.o v2)) := by
  have b1 := below_self_alloc w (a.o v1)
  have b2 := below_self_alloc (w.alloc (a.o v1)) (b.o v2)
  have g2 := heap_alloc_new (w.alloc (a.o v1)) (b.o v2)
  rw [show (w.alloc (a.o v1)).heap.size = w.heap.size + 1 by simp] at g2
  exact ⟨old_of b2 (heap_alloc_new w (a.o v1)), g2, b1.trans (b2.mono b1.size)⟩
theorem dd_open {w : World} {v : Value} (h : DIn w v) : ∃ (d : DD) (c : Value), v = d.v c ∧ RowS (fun _ => True) w c d.l ∧ (∀ x ∈ d.l, StOk x) ∧ d.l.length ≤ 140737488351232 ∧ d.bm.length ≤ 140737488351232 ∧ d.mm.length ≤ 140737488351232 ∧ -9223372036854775808 ≤ d.n ∧ d.n ≤ 9223372036854775807 ∧ ∃ a k, c = .slice a d.l.length k ∧ d.l.length ≤ k := by
  obtain ⟨bm, mm, n, c, xs, hd⟩ := h
  have h1 := hd.st.len
  exact ⟨⟨bm, mm, n, xs⟩, c, hd.val, hd.st.row.mono (fun _ _ => trivial), hd.st.ok, by show xs.length ≤ _; omega, hd.b1, hd.b2, hd.bn.1, hd.bn.2, hd.st.cap⟩
theorem two_row {w : World} {a b : DD} {v1 v2 : Value} (h1 : RowS (fun _ => True) w v1 a.l) (h2 : RowS (fun _ => True) w v2 b.l) :
    RowD (w.alloc (.cells #[.string ⟨a.bm.toArray⟩, .string ⟨a.mm.toArray⟩, .int .i64 a.n, v1, .string ⟨b.bm.toArray⟩, .string ⟨b.mm.toArray⟩, .int .i64 b.n, v2] 24 (0, 0))) (.slice (some ⟨w.heap.size, 0, none⟩) 2 2) [a, b] := by
  have hb := below_self_alloc w (.cells #[.string ⟨a.bm.toArray⟩, .string ⟨a.mm.toArray⟩, .int .i64 a.n, v1, .string ⟨b.bm.toArray⟩, .string ⟨b.mm.toArray⟩, .int .i64 b.n, v2] 24 (0, 0))
  have hg := heap_alloc_new w (.cells #[.string ⟨a.bm.toArray⟩, .string ⟨a.mm.toArray⟩, .int .i64 a.n, v1, .string ⟨b.bm.toArray⟩, .string ⟨b.mm.toArray⟩, .int .i64 b.n, v2] 24 (0, 0))
  refine ⟨_, _, rfl, Nat.le_refl _, fun i hi => ?_⟩
  match i, hi with
  | 0, _ => exact ⟨w.heap.size, 0, v1, rfl, ⟨by rw [cell_of_row _ _ _ _ _ _ hg]; rfl, by rw [cell_of_row _ _ _ _ _ _ hg]; rfl, by rw [cell_of_row _ _ _ _ _ _ hg]; rfl, by rw [cell_of_row _ _ _ _ _ _ hg]; rfl⟩, h1.keep hb⟩
  | 1, _ => exact ⟨w.heap.size, 0, v2, rfl, ⟨by rw [cell_of_row _ _ _ _ _ _ hg]; rfl, by rw [cell_of_row _ _ _ _ _ _ hg]; rfl, by rw [cell_of_row _ _ _ _ _ _ hg]; rfl, by rw [cell_of_row _ _ _ _ _ _ hg]; rfl⟩, h2.keep hb⟩
set_option maxRecDepth 100000 in
set_option maxHeartbeats 1000000 in
theorem chainKept_walk (u1 u2 : Value) (w : World) (h1 : DIn w u1) (h2 : DIn w u2) :
    Calls Try.prog 11 #[u1, u2] w fun e w' => e = .returned (.bool true) ∧ Below w.heap.size w w' := by
  obtain ⟨a, v1, rfl, ra, oka, la, ba, ma, na1, na2, xa1, ka1, rfl, _⟩ := dd_open h1
  obtain ⟨b, v2, rfl, rb, okb, lb, bb, mb, nb1, nb2, xb1, kb1, rfl, _⟩ := dd_open h2
  have T0 := Lib.hid (two_start w a b (.slice xa1 a.l.length ka1) (.slice xb1 b.l.length kb1))
  have RA := Lib.hid ra
  have RB := Lib.hid rb
  have SA := fun w' (hb : Below w.heap.size w w') => Lib.hid (small7_any _ a.bm a.mm a.n _ a.l w' (ra.keep hb) oka la)
  have SB := fun w' (hb : Below w.heap.size w w') => Lib.hid (small7_any _ b.bm b.mm b.n _ b.l w' (rb.keep hb) okb lb)
  have DA := Lib.hid (fun (h : SmallL a.l) => (show a.Ok from ⟨oka, by have := h.len; omega, ba, ma, na1, na2⟩))
  have DB := Lib.hid (fun (h : SmallL b.l) => (show b.Ok from ⟨okb, by have := h.len; omega, bb, mb, nb1, nb2⟩))
  clear h1 h2 ra rb oka okb la lb ba bb ma mb na1 na2 nb1 nb2
  obtain ⟨bm1, mm1, n1, l1⟩ := a
  obtain ⟨bm2, mm2, n2, l2⟩ := b
  dsimp only [DD.v, DD.o] at *
  go_enter Try.func11, Try.ntmps11
  go_upto_region 1 with fail
  generalize (w.alloc (.cells #[.string ⟨bm1.toArray⟩, .string ⟨mm1.toArray⟩, .int .i64 n1, .slice xa1 l1.length ka1] 24)).alloc (.cells #[.string ⟨bm2.toArray⟩, .string ⟨mm2.toArray⟩, .int .i64 n2, .slice xb1 l2.length kb1] 24) = w1 at *
  obtain ⟨a0, a1, a2, a3⟩ := delO_cells T0.out.xa
  go_wp2_with fail
  refine (SA _ T0.out.bel).out.mono ?_
  rintro e w2 ⟨ra, rfl, hra, hb2⟩
  have T2 := Lib.hid (T0.out.new hb2)
  clear a0 a1 a2 a3 T0 hb2 SA
  cases ra with
  | false =>
    go_wp2_with fail
    refine (awake7_any _).mono ?_
    rintro e w3 ⟨rfl, hb3⟩
    have T3 := Lib.hid (T2.out.new hb3)
    clear T2 hb3
    go_wp2_with fail
    go_ret
    exact ⟨rfl, T3.out.bel⟩
  | true =>
    obtain ⟨b0, b1, b2, b3⟩ := delO_cells T2.out.xb
    go_wp2_with fail
    refine (SB _ T2.out.bel).out.mono ?_
    rintro e w3 ⟨rb, rfl, hrb, hb3⟩
    have T3 := Lib.hid (T2.out.new hb3)
    clear b0 b1 b2 b3 T2 hb3 SB
    cases rb with
    | false =>
      go_wp2_with fail
      refine (awake7_any _).mono ?_
      rintro e w4 ⟨rfl, hb4⟩
      have T4 := Lib.hid (T3.out.new hb4)
      clear T3 hb4
      go_wp2_with fail
      go_ret
      exact ⟨rfl, T4.out.bel⟩
    | true =>
      have sa : SmallL l1 := by simpa using hra
      have sb : SmallL l2 := by simpa using hrb
      have oka := DA.out sa
      have okb := DB.out sb
      have wa := sa.wt
      have wb := sb.wt
      have ha1 := sa.len
      have hb1 := sb.len
      clear DA DB hra hrb
      obtain ⟨a0, a1, a2, a3⟩ := delO_cells (T3.out.new (below_self_alloc w3 (.cells #[] 61 (0, 0)))).xa
      go_wp2_with (first | (at_builtin; refine append_clone (w0 := w3) (by rfl) (.tmp 16) (.tmp 18) 22 _ (by rfl) Try.underlying22 info_step (by rfl) _ _ l1 (by rfl) (by rfl) (RA.out.keep T3.out.bel) (by omega) ?_; intro vx w4 hox hb4; have T4 := Lib.hid (T3.out.new hb4); have OX := Lib.hid hox.row; clear hox hb4 a0 a1 a2 a3; obtain ⟨b0, b1, b2, b3⟩ := delO_cells (T4.out.new (below_self_alloc w4 (.cells #[] 61 (0, 0)))).xb) | (at_builtin; refine append_clone (w0 := w4) (by rfl) (.tmp 20) (.tmp 22) 22 _ (by rfl) Try.underlying22 info_step (by rfl) _ _ l2 (by rfl) (by rfl) (RB.out.keep T4.out.bel) (by omega) ?_; intro vy w5 hoy hb5; have T5 := Lib.hid (T4.out.new hb5); have OY := Lib.hid hoy.row; have OX5 := Lib.hid (OX.out.keep hb5); clear hoy hb5 OX b0 b1 b2 b3; obtain ⟨a0, a1, a2, a3⟩ := delO_cells T5.out.xa))
      refine (tidy_any _ _ l1 w5 (RA.out.keep T5.out.bel) oka.st (by omega) (by omega)).mono ?_
      rintro e w6 ⟨vt, rfl, _, hb6⟩
      have T6 := Lib.hid (T5.out.new hb6)
      have OX6 := Lib.hid (OX5.out.keep hb6)
      have OY6 := Lib.hid (OY.out.keep hb6)
      clear a0 a1 a2 a3 hb6 T5 OX5 OY T3 T4
      obtain ⟨a0, a1, a2, a3⟩ := delO_cells T6.out.xa
      obtain ⟨b0, b1, b2, b3⟩ := delO_cells T6.out.xb
      go_wp2_with fail
      refine (compose_any _ _ ⟨bm1, mm1, n1, l1⟩ ⟨bm2, mm2, n2, l2⟩ _ _ w6 (RA.out.keep T6.out.bel) (RB.out.keep T6.out.bel) oka okb).mono ?_
      rintro e w7 ⟨vc, rfl, _, hb7⟩
      have T7 := Lib.hid (T6.out.new hb7)
      have OX7 := Lib.hid (OX6.out.keep hb7)
      have OY7 := Lib.hid (OY6.out.keep hb7)
      clear a0 a1 a2 a3 b0 b1 b2 b3 hb7 T6 OX6 OY6
      obtain ⟨a0, a1, a2, a3⟩ := delO_cells T7.out.xa
      obtain ⟨b0, b1, b2, b3⟩ := delO_cells T7.out.xb
      have FO := Lib.hid (fold_any _ [⟨bm1, mm1, n1, l1⟩, ⟨bm2, mm2, n2, l2⟩] _ (two_row (a := ⟨bm1, mm1, n1, l1⟩) (b := ⟨bm2, mm2, n2, l2⟩) (RA.out.keep T7.out.bel) (RB.out.keep T7.out.bel)) (fun d hd => by simp only [List.mem_cons, List.not_mem_nil, or_false] at hd; rcases hd with rfl | rfl; exact oka; exact okb) (by simp))
      have hbq := below_self_alloc w7 (.cells #[.string ⟨bm1.toArray⟩, .string ⟨mm1.toArray⟩, .int .i64 n1, .slice xa1 l1.length ka1, .string ⟨bm2.toArray⟩, .string ⟨mm2.toArray⟩, .int .i64 n2, .slice xb1 l2.length kb1] 24 (0, 0))
      have T8 := Lib.hid (T7.out.new hbq)
      have OX8 := Lib.hid (OX7.out.keep hbq)
      have OY8 := Lib.hid (OY7.out.keep hbq)
      clear hbq T7 OX7 OY7
      go_wp2_with fail
      refine FO.out.mono ?_
      rintro e w9 ⟨vf, rfl, _, hb9⟩
      have T9 := Lib.hid (T8.out.new hb9)
      have OX9 := Lib.hid (OX8.out.keep hb9)
      have OY9 := Lib.hid (OY8.out.keep hb9)
      clear a0 a1 a2 a3 b0 b1 b2 b3 hb9 T8 OX8 OY8 FO
      obtain ⟨a0, a1, a2, a3⟩ := delO_cells T9.out.xa
      go_wp2_with fail
      refine (stepsEq_any _ _ _ _ l1 w9 OX9.out (RA.out.keep T9.out.bel) (by omega)).mono ?_
      rintro e wA ⟨rfl, hbA⟩
      have TA := Lib.hid (T9.out.new hbA)
      have OYA := Lib.hid (OY9.out.keep hbA)
      clear a0 a1 a2 a3 hbA T9 OX9 OY9
      obtain ⟨b0, b1, b2, b3⟩ := delO_cells TA.out.xb
      go_wp2_with fail
      refine (stepsEq_any _ _ _ _ l2 wA OYA.out (RB.out.keep TA.out.bel) (by omega)).mono ?_
      rintro e wB ⟨rfl, hbB⟩
      have TB := Lib.hid (TA.out.new hbB)
      clear b0 b1 b2 b3 hbB TA OYA
      go_wp2_with fail
      refine (awake7_any _).mono ?_
      rintro e wC ⟨rfl, hbC⟩
      have TC := Lib.hid (TB.out.new hbC)
      clear hbC TB
      go_wp2_with fail
      go_ret
      exact ⟨rfl, TC.out.bel⟩
end Go.Proofs.Ytpkgjokehgihjaa
