/- The walk of the law DeltaApplies. -/
import Derived.Test.YtcbodpcekjngbaaGreatRnX
import Derived.Test.YtcbodpcekjngbaaGreatArgStep
import Derived.Test.YtcbodpcekjngbaaGreatTabX
import Derived.Test.YtcbodpcekjngbaaGreatBldShelf
import Derived.Test.YtcbodpcekjngbaaGreatRshX
import Derived.Test.YtcbodpcekjngbaaGreatDelX
import Derived.Test.YtcbodpcekjngbaaGreatRfX
import Derived.Test.YtcbodpcekjngbaaGreatFrame
import Derived.Test.YtcbodpcekjngbaaGreatGen
import Derived.Test.YtcbodpcekjngbaaGreatMarkMath
import Derived.Test.YtcbodpcekjngbaaGreatShaX
import Derived.Test.YtcbodpcekjngbaaGreatNewTabW
import Derived.Test.YtcbodpcekjngbaaGreatOdX
import Derived.Test.YtcbodpcekjngbaaGreatOps3
import Derived.Test.YtcbodpcekjngbaaGreatOwnL
import Derived.Test.YtcbodpcekjngbaaGreatProg
import Derived.Test.YtcbodpcekjngbaaGreatCdX
import Derived.Test.YtcbodpcekjngbaaGreatRealBookW
import Derived.Test.YtcbodpcekjngbaaGreatBkX
import Derived.Test.YtcbodpcekjngbaaGreatRefX
import Derived.Test.YtcbodpcekjngbaaGreatRightDW
import Derived.Test.YtcbodpcekjngbaaGreatRowKeep
import Derived.Test.YtcbodpcekjngbaaGreatRows
import Derived.Test.YtcbodpcekjngbaaGreatMkX
import Derived.Test.YtcbodpcekjngbaaGreatShelf
import Derived.Test.YtcbodpcekjngbaaGreatSigAt
import Derived.Test.YtcbodpcekjngbaaGreatSignMath
import Derived.Test.YtcbodpcekjngbaaGreatSignW
import Derived.Test.YtcbodpcekjngbaaGreatSortX
import Derived.Test.YtcbodpcekjngbaaGreatSortEW
import Derived.Test.YtcbodpcekjngbaaGreatStepW
import Derived.BigQuiet
import Derived.BigRegion
import Derived.Deep.CutBlock
import Derived.Deep.DeepCutAuto
import Derived.Deep.LoopGhost
import Derived.Deep.QuietTactic
import Derived.Deep.RegionHeld3
import Derived.Deep.RegionLaw
import Derived.IntWalk
import Derived.Laws.BitsAllLaws
import Derived.Laws.CopyRow
import Derived.Laws.Externs
import Derived.Laws.IdiomCopy
import Derived.Laws.MakeOwn
import Derived.Laws.Rows
import Derived.Laws.Tables
import Derived.Lib.AppendStr
import Derived.Lib.Builder
import Derived.Lib.Hide
import Derived.Lib.SliceRun
import Derived.Lib.SmallJoins
import Derived.Lib.Strings
import Derived.Lib.Walk
import Derived.Maps.OwnSet
import Derived.Maps.Views
import Derived.Outline
import Derived.Sort.Walk0
import Derived.StillTail
import Derived.StillTailTactics
import Derived.WalkKit
import Derived.WalkLawsBesides
import Derived.WalkSpells
set_option linter.unusedVariables false
namespace Go.Proofs.YtcbodpcekjngbaaGreat
open Go.RowKit

set_option maxRecDepth 100000 in
set_option maxHeartbeats 4000000 in
theorem deltaApplies_walk (l0 : Txt) (hl0 : l0.length ≤ 140737488351232) (v : Value) (w : World) (hv : DIn w v) :
    Calls Tryz.prog 5 #[.string ⟨l0.toArray⟩, v] w fun e w' => e = .returned (.bool true) ∧ Below w.heap.size w w' := by
  obtain ⟨bm, mm, n, c, xs, hd⟩ := hv
  obtain rfl := hd.val
  have CT := fun w' => Lib.hid (cutD_any l0 2000 w' (by decide) hl0)
  have hl : (l0.take 2000).length ≤ 2000 := List.length_take_le _ _
  generalize l0.take 2000 = l at *
  obtain ⟨a, k, rfl, hk⟩ := hd.st.cap
  have hok : ∀ x ∈ xs.take 200, StOk x := fun x hx => hd.st.ok x (List.mem_of_mem_take hx)
  have hlen : (xs.take 200).length ≤ 200 := List.length_take_le _ _
  have hrow := RowS.takeD hd.st.row 200
  have FW := Lib.hid (fun w' => fewD_any bm mm n a xs.length k w' hk (fun h => by
    obtain ⟨g, o, c, hv, _⟩ := hd.st.row.at h
    injection hv with e _ _
    exact ⟨g, o, e⟩))
  have hb1 := hd.b1
  have hb2 := hd.b2
  have hbn := hd.bn
  generalize hmn : min xs.length 200 = mn at *
  have AP := Lib.hid (fun w' p kb (hb : Below w.heap.size w w') (hA : RealAt w' p kb) => applyD_any (ask_real p kb) (Nat.le_refl _) (by decide) _ l bm mm n (.slice a mn k) (xs.take 200) w' (hrow.keep hb) hok (by omega) hb1 hb2 hbn.1 hbn.2 hA (by omega) (fun _ => by omega))
  have RP := Lib.hid (fun w' q (hb : Below w.heap.size w w') (hA : RefRealAt w' q) => refApply_any q _ l bm mm n (.slice a mn k) (xs.take 200) w' (hrow.keep hb) hok (by omega) hb1 hb2 hbn.1 hbn.2 hA (by omega))
  generalize applyS isRl l bm mm n (xs.take 200) = r at *
  obtain ⟨re, rt⟩ := r
  dsimp only at AP RP
  have hb0 := below_self_alloc w (delO bm mm n (.slice a xs.length k))
  have HB0 := Lib.hid hb0
  have HG0 := Lib.hid (heap_alloc_new w (delO bm mm n (.slice a xs.length k)))
  obtain ⟨d0, d1, d2, d3⟩ := delO_cells HG0.out
  have qs : (rt == rt) = true := by simp
  have qe : (re == re) = true := by simp
  clear hd hb0 hrow hok hlen hmn hbn
  go_enter Tryz.func5, Tryz.ntmps5
  go_wp2_with fail
  generalize w.alloc (.cells #[.string ⟨bm.toArray⟩, .string ⟨mm.toArray⟩, .int .i64 n, .slice a xs.length k] 41) = w0 at *
  refine (CT _).out.mono ?_
  rintro e w' ⟨rfl, rfl⟩
  go_wp2_with fail
  refine (FW.out _).mono ?_
  rintro e w1 ⟨rfl, hb1'⟩
  have HG1 := Lib.hid ((hb1'.block _ (Array.getElem?_eq_some_iff.1 HG0.out).1).trans HG0.out)
  have HB1 := Lib.hid (HB0.out.trans (hb1'.mono HB0.out.size))
  obtain ⟨s0', s1', s2', s3', s4', s5'⟩ := four_store HG1.out (.string ⟨bm.toArray⟩) (.string ⟨mm.toArray⟩) (.int .i64 n) (.slice a mn k)
  have S0 := s0'.1
  have S0f := s0'.2
  have S1 := s1'.1
  have S1f := s1'.2
  have S2 := s2'.1
  have S2f := s2'.2
  have S3 := s3'.1
  have S3f := s3'.2
  obtain ⟨z0, z1, z2, z3⟩ := delO_cells s4'
  have HB2 := Lib.hid (HB1.out.trans (s5'.below HB1.out.size (fun k e => by omega)))
  have HFIN := Lib.hid (And.intro z0 (And.intro z1 (And.intro z2 z3)))
  clear s0' s1' s2' s3' s4' s5' hb1' d0 d1 d2 d3 z0 z1 z2 z3
  go_upto_region 3 with fail
  generalize (((w1.setCell ⟨w.heap.size, 0, none⟩ (.string ⟨bm.toArray⟩)).setCell ⟨w.heap.size, 1, none⟩ (.string ⟨mm.toArray⟩)).setCell ⟨w.heap.size, 2, none⟩ (.int .i64 n)).setCell ⟨w.heap.size, 3, none⟩ (.slice a mn k) = w2 at *
  clear S0 S0f S1 S1f S2 S2f S3 S3f
  have RA := Lib.hid (real_any w2.drew)
  have HBD := Lib.hid (show Below w.heap.size w w2.drew from HB2.out.trans (Below_drew (Below.refl w.heap.size w2)))
  have z0 : w2.drew.cell? ⟨w.heap.size, 0, none⟩ = _ := HFIN.out.1
  have z1 : w2.drew.cell? ⟨w.heap.size, 1, none⟩ = _ := HFIN.out.2.1
  have z2 : w2.drew.cell? ⟨w.heap.size, 2, none⟩ = _ := HFIN.out.2.2.1
  have z3 : w2.drew.cell? ⟨w.heap.size, 3, none⟩ = _ := HFIN.out.2.2.2
  go_region_law (first
    | (go_simp; go_at_call 9; (refine RA.out.mono ?_); rintro e w3 ⟨p, kb, rfl, hA3, hp3, hkb3, hb3⟩; have e0 := (hb3.cell (World.block_lt_of_cell? w2.drew _ z0)).trans z0; have e1 := (hb3.cell (World.block_lt_of_cell? w2.drew _ z1)).trans z1; have e2 := (hb3.cell (World.block_lt_of_cell? w2.drew _ z2)).trans z2; have e3 := (hb3.cell (World.block_lt_of_cell? w2.drew _ z3)).trans z3; have HB3 := Lib.hid (HBD.out.trans (hb3.mono HBD.out.size)); have MK := Lib.hid (AP.out w3 p kb HB3.out hA3); clear hA3 hp3 hkb3 hb3)
    | (go_simp; go_at_call 14; (refine MK.out.mono ?_); rintro e w5 ⟨rfl, hb5⟩; have g0 := (hb5.cell (World.block_lt_of_cell? w3 _ e0)).trans e0; have g1 := (hb5.cell (World.block_lt_of_cell? w3 _ e1)).trans e1; have g2 := (hb5.cell (World.block_lt_of_cell? w3 _ e2)).trans e2; have g3 := (hb5.cell (World.block_lt_of_cell? w3 _ e3)).trans e3; have HB5 := Lib.hid (HB3.out.trans (hb5.mono HB3.out.size)); clear hb5))
  all_goals
    have hb6 := below_self_alloc w5 (.cells #[.bool true, .slice none 0 0] 37)
    have k0 := (hb6.cell (World.block_lt_of_cell? w5 _ g0)).trans g0
    have k1 := (hb6.cell (World.block_lt_of_cell? w5 _ g1)).trans g1
    have k2 := (hb6.cell (World.block_lt_of_cell? w5 _ g2)).trans g2
    have k3 := (hb6.cell (World.block_lt_of_cell? w5 _ g3)).trans g3
    have HB6 := Lib.hid (HB5.out.trans (hb6.mono HB5.out.size))
    have RM := Lib.hid (RP.out _ w5.heap.size HB6.out (refReal_new w5))
    clear hb6
    go_wp2_with fail
    refine RM.out.mono ?_
    rintro e w7 ⟨rfl, hb7⟩
    have HB7 := Lib.hid (HB6.out.trans (hb7.mono HB6.out.size))
    clear hb7 RM
    go_wp2_with fail
    refine (awake_any _).mono ?_
    rintro e w9 ⟨rfl, hb9⟩
    go_wp2_with fail
    go_ret
    exact ⟨rfl, HB7.out.trans (hb9.mono HB7.out.size)⟩
end Go.Proofs.YtcbodpcekjngbaaGreat
