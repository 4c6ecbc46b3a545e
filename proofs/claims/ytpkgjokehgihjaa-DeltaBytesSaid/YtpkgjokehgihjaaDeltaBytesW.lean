/- The walk of the law DeltaBytes. -/
import Derived.Test.YtpkgjokehgihjaaAgX
import Derived.Test.YtpkgjokehgihjaaTabX
import Derived.Test.YtpkgjokehgihjaaBldShelf
import Derived.Test.YtpkgjokehgihjaaRbX
import Derived.Test.YtpkgjokehgihjaaMkX
import Derived.Test.YtpkgjokehgihjaaDbX
import Derived.Test.YtpkgjokehgihjaaDelX
import Derived.Test.YtpkgjokehgihjaaRfX
import Derived.Test.YtpkgjokehgihjaaFrame
import Derived.Test.YtpkgjokehgihjaaGen
import Derived.Test.YtpkgjokehgihjaaMarkMath
import Derived.Test.YtpkgjokehgihjaaOdX
import Derived.Test.YtpkgjokehgihjaaOwnL
import Derived.Test.YtpkgjokehgihjaaProg
import Derived.Test.YtpkgjokehgihjaaCdX
import Derived.Test.YtpkgjokehgihjaaRightDW
import Derived.Test.YtpkgjokehgihjaaRowKeep
import Derived.Test.YtpkgjokehgihjaaRows
import Derived.Test.YtpkgjokehgihjaaShelf
import Derived.Test.YtpkgjokehgihjaaSigAt
import Derived.Test.YtpkgjokehgihjaaSignMath
import Derived.Test.YtpkgjokehgihjaaSortX
import Derived.Test.YtpkgjokehgihjaaSortEW
import Derived.Test.YtpkgjokehgihjaaStepW
import Derived.BigQuiet
import Derived.BigRegion
import Derived.Deep.AppendLies
import Derived.Deep.CutBlock
import Derived.Deep.DeepCutAuto
import Derived.Deep.LoopGhost
import Derived.Deep.QuietTactic
import Derived.Deep.RegionHeld3
import Derived.Deep.RegionLaw
import Derived.IntWalk
import Derived.Laws.BitsAllLaws
import Derived.Laws.Externs
import Derived.Laws.MakeOwn
import Derived.Laws.Rows
import Derived.Laws.Tables
import Derived.Lib.AppendStr
import Derived.Lib.Builder
import Derived.Lib.Hide
import Derived.Lib.SmallJoins
import Derived.Lib.Strings
import Derived.Lib.Walk
import Derived.Maps.OwnSet
import Derived.Maps.Views
import Derived.Outline
import Derived.Sort.Walk0
import Derived.StillTailTactics
import Derived.WalkKit
import Derived.WalkLawsBesides
import Derived.WalkSpells
set_option linter.unusedVariables false
namespace Go.Proofs.Ytpkgjokehgihjaa
open Go.RowKit

/-- Both makers of a delta's bytes tell the same. -/
theorem bytes_both (N : Nat → Prop) (bm mm : Txt) (n : Int) (v : Value) (l : List DSt) (hok : ∀ x ∈ l, StOk x) (hl : l.length ≤ 20000) (h1 : bm.length ≤ 140737488351232) (h2 : mm.length ≤ 140737488351232) (hn1 : -9223372036854775808 ≤ n) (hn2 : n ≤ 9223372036854775807) :
    ∃ (rs : Txt) (re : Int), (∀ w, RowS N w v l → Calls Try.prog 13 #[delW bm mm n v] w fun e w' => e = .returned (.tuple #[.string ⟨rs.toArray⟩, .int .i64 re]) ∧ Below w.heap.size w w') ∧
      (∀ w, RowS N w v l → Calls Try.prog 14 #[delW bm mm n v] w fun e w' => e = .returned (.tuple #[.string ⟨rs.toArray⟩, .int .i64 re]) ∧ Below w.heap.size w w') := by
  cases hr : rightD bm mm n l with
  | true =>
    obtain ⟨M, hM⟩ := rightD_is hr
    obtain rfl := hM.n
    exact ⟨_, _, fun w h => bytesD_ok N bm mm v l M w h hok hM hl, fun w h => refBytesD_ok N bm mm v l M w h hok hM hl⟩
  | false => exact ⟨[], 1, fun w h => bytesD_no N bm mm n v l w h hok (by omega) h1 h2 hn1 hn2 hr, fun w h => refBytesD_no N bm mm n v l w h hok (by omega) h1 h2 hn1 hn2 hr⟩

set_option maxRecDepth 100000 in
set_option maxHeartbeats 4000000 in
theorem deltaBytes_walk (v : Value) (w : World) (hv : DIn w v) :
    Calls Try.prog 3 #[v] w fun e w' => e = .returned (.bool true) ∧ Below w.heap.size w w' := by
  obtain ⟨bm, mm, n, c, xs, hd⟩ := hv
  obtain rfl := hd.val
  obtain ⟨a, k, rfl, hk⟩ := hd.st.cap
  have hok : ∀ x ∈ xs.take 200, StOk x := fun x hx => hd.st.ok x (List.mem_of_mem_take hx)
  have hlen : (xs.take 200).length ≤ 200 := List.length_take_le _ _
  have hrow := RowS.takeD hd.st.row 200
  have FW := Lib.hid (fun w' => fewD_any bm mm n a xs.length k w' hk (fun h => by
    obtain ⟨g, o, c, hv, _⟩ := hd.st.row.at h
    injection hv with e _ _
    exact ⟨g, o, e⟩))
  have hb1 := hd.b1
  have hb2 := hd.b2
  have hbn := hd.bn
  generalize hmn : min xs.length 200 = mn at *
  obtain ⟨rs, re, B1, B2⟩ := bytes_both (· < w.heap.size) bm mm n (.slice a mn k) (xs.take 200) hok (by omega) hb1 hb2 hbn.1 hbn.2
  have R1 := fun w' hr => rightD_any (· < w.heap.size) bm mm n (.slice a mn k) (xs.take 200) w' hr hok (by omega) hb1 hb2 hbn.1 hbn.2
  have R2 := fun w' hr => refRightD_any (· < w.heap.size) bm mm n (.slice a mn k) (xs.take 200) w' hr hok (by omega) hb1 hb2 hbn.1 hbn.2
  generalize rightD bm mm n (xs.take 200) = b at *
  have BY1 := Lib.hid (fun w' (hb : Below w.heap.size w w') => B1 w' (hrow.keep hb))
  have BY2 := Lib.hid (fun w' (hb : Below w.heap.size w w') => B2 w' (hrow.keep hb))
  have RT1 := Lib.hid (fun w' (hb : Below w.heap.size w w') => R1 w' (hrow.keep hb))
  have RT2 := Lib.hid (fun w' (hb : Below w.heap.size w w') => R2 w' (hrow.keep hb))
  clear B1 B2 R1 R2
  have hb0 := below_self_alloc w (delO bm mm n (.slice a xs.length k))
  have HB0 := Lib.hid hb0
  have HG0 := Lib.hid (heap_alloc_new w (delO bm mm n (.slice a xs.length k)))
  obtain ⟨d0, d1, d2, d3⟩ := delO_cells HG0.out
  have qs : (rs == rs) = true := by simp
  have qe : (re == re) = true := by simp
  have qb : (b == b) = true := by simp
  clear hd hb0 hrow hok hlen hmn hbn
  go_enter Try.func3, Try.ntmps3
  go_wp2_with fail
  generalize w.alloc (.cells #[.string ⟨bm.toArray⟩, .string ⟨mm.toArray⟩, .int .i64 n, .slice a xs.length k] 24) = w0 at *
  refine (FW.out _).mono ?_
  rintro e w1 ⟨rfl, hb1'⟩
  have HG1 := Lib.hid ((hb1'.block _ (Array.getElem?_eq_some_iff.1 HG0.out).1).trans HG0.out)
  have HB1 := Lib.hid (HB0.out.trans (hb1'.mono HB0.out.size))
  obtain ⟨s0', s1', s2', s3', s4', s5'⟩ := four_store HG1.out (.string ⟨bm.toArray⟩) (.string ⟨mm.toArray⟩) (.int .i64 n) (.slice a mn k)
  have S0 := s0'.1
  have S0f := s0'.2
  have S1 := s1'.1
  have S1f := s1'.2
  have S2 := s2'.1
  have S2f := s2'.2
  have S3 := s3'.1
  have S3f := s3'.2
  obtain ⟨z0, z1, z2, z3⟩ := delO_cells s4'
  have HB2 := Lib.hid (HB1.out.trans (s5'.below HB1.out.size (fun k e => by omega)))
  have HFIN := Lib.hid (And.intro z0 (And.intro z1 (And.intro z2 z3)))
  clear s0' s1' s2' s3' s4' s5' hb1' d0 d1 d2 d3 z0 z1 z2 z3
  go_upto_region 2 with fail
  generalize (((w1.setCell ⟨w.heap.size, 0, none⟩ (.string ⟨bm.toArray⟩)).setCell ⟨w.heap.size, 1, none⟩ (.string ⟨mm.toArray⟩)).setCell ⟨w.heap.size, 2, none⟩ (.int .i64 n)).setCell ⟨w.heap.size, 3, none⟩ (.slice a mn k) = w2 at *
  clear S0 S0f S1 S1f S2 S2f S3 S3f
  obtain ⟨z0, z1, z2, z3⟩ := HFIN.out
  have A1 := Lib.hid (BY1.out w2 HB2.out)
  go_wp2_with fail
  refine A1.out.mono ?_
  rintro e w3 ⟨rfl, hb3⟩
  have y0 := (hb3.cell (World.block_lt_of_cell? w2 _ z0)).trans z0
  have y1 := (hb3.cell (World.block_lt_of_cell? w2 _ z1)).trans z1
  have y2 := (hb3.cell (World.block_lt_of_cell? w2 _ z2)).trans z2
  have y3 := (hb3.cell (World.block_lt_of_cell? w2 _ z3)).trans z3
  have HB3 := Lib.hid (HB2.out.trans (hb3.mono HB2.out.size))
  have A2 := Lib.hid (BY2.out w3 HB3.out)
  clear z0 z1 z2 z3 hb3 A1 HFIN
  go_wp2_with fail
  refine A2.out.mono ?_
  rintro e w4 ⟨rfl, hb4⟩
  have x0 := (hb4.cell (World.block_lt_of_cell? w3 _ y0)).trans y0
  have x1 := (hb4.cell (World.block_lt_of_cell? w3 _ y1)).trans y1
  have x2 := (hb4.cell (World.block_lt_of_cell? w3 _ y2)).trans y2
  have x3 := (hb4.cell (World.block_lt_of_cell? w3 _ y3)).trans y3
  have HB4 := Lib.hid (HB3.out.trans (hb4.mono HB3.out.size))
  clear y0 y1 y2 y3 hb4 A2 BY1 BY2
  go_wp2_with fail
  have F0 := below_cell x0
  have F1 := below_cell x1
  have F2 := below_cell x2
  have F3 := below_cell x3
  have Q1 := Lib.hid (fun P : BelowOf w4 => RT1.out P.w (HB4.out.trans (P.h.mono HB4.out.size)))
  have Q2 := Lib.hid (fun P : BelowOf w4 => RT2.out P.w (HB4.out.trans (P.h.mono HB4.out.size)))
  refine wp_region_below (by kernel_rfl) (by kernel_rfl) ?_
  repeat (go_big_quiet_step ((first | (go_at_call 15; with_reducible exact below_calls (Q1.out _)) | (go_at_call 16; with_reducible exact below_calls (Q2.out _)) | (go_at_call 17; with_reducible exact below_calls (awake_any _)))))
  refine wpQuiet_nil ?_
  rintro w7 ⟨⟨w7b, hb7⟩, hw7⟩
  have hw7b : w7 = w7b := hw7
  clear hw7
  subst hw7b
  have HB7 := Lib.hid (HB4.out.trans (hb7.mono HB4.out.size))
  clear F0 F1 F2 F3 Q1 Q2 hb7
  go_wp2_with fail
  go_ret
  exact ⟨rfl, HB7.out⟩
end Go.Proofs.Ytpkgjokehgihjaa
