/- The walk of the law DeltaSigned. -/
import Derived.Test.YtcbodpcekjngbaaGreatArgSig
import Derived.Test.YtcbodpcekjngbaaGreatArgs3
import Derived.Test.YtcbodpcekjngbaaGreatMkX
import Derived.Test.YtcbodpcekjngbaaGreatTabX
import Derived.Test.YtcbodpcekjngbaaGreatBookW
import Derived.Test.YtcbodpcekjngbaaGreatBytesW
import Derived.Test.YtcbodpcekjngbaaGreatDelX
import Derived.Test.YtcbodpcekjngbaaGreatFrame
import Derived.Test.YtcbodpcekjngbaaGreatGen
import Derived.Test.YtcbodpcekjngbaaGreatInfos
import Derived.Test.YtcbodpcekjngbaaGreatRshX
import Derived.Test.YtcbodpcekjngbaaGreatMakeDW
import Derived.Test.YtcbodpcekjngbaaGreatMarkMath
import Derived.Test.YtcbodpcekjngbaaGreatRollX
import Derived.Test.YtcbodpcekjngbaaGreatShaX
import Derived.Test.YtcbodpcekjngbaaGreatNewTabW
import Derived.Test.YtcbodpcekjngbaaGreatOdX
import Derived.Test.YtcbodpcekjngbaaGreatOps3
import Derived.Test.YtcbodpcekjngbaaGreatOwnL
import Derived.Test.YtcbodpcekjngbaaGreatProg
import Derived.Test.YtcbodpcekjngbaaGreatRealBookW
import Derived.Test.YtcbodpcekjngbaaGreatBkX
import Derived.Test.YtcbodpcekjngbaaGreatRefX
import Derived.Test.YtcbodpcekjngbaaGreatRefRightW
import Derived.Test.YtcbodpcekjngbaaGreatRightW
import Derived.Test.YtcbodpcekjngbaaGreatRowKeep
import Derived.Test.YtcbodpcekjngbaaGreatRows
import Derived.Test.YtcbodpcekjngbaaGreatSameW
import Derived.Test.YtcbodpcekjngbaaGreatShelf
import Derived.Test.YtcbodpcekjngbaaGreatSignAW
import Derived.Test.YtcbodpcekjngbaaGreatSignMath
import Derived.Test.YtcbodpcekjngbaaGreatSignW
import Derived.Test.YtcbodpcekjngbaaGreatSortX
import Derived.Test.YtcbodpcekjngbaaGreatSortEW
import Derived.BigQuiet
import Derived.Deep.AppendLies
import Derived.Deep.CutBlock
import Derived.Deep.DeepCutAuto
import Derived.Deep.LoopGhost
import Derived.Deep.QuietTactic
import Derived.Deep.RegionHeld3
import Derived.Deep.RegionLaw
import Derived.IntWalk
import Derived.Laws.BitsAllLaws
import Derived.Laws.CopyRow
import Derived.Laws.IdiomCopy
import Derived.Laws.MakeOwn
import Derived.Laws.OwnMore
import Derived.Laws.Rows
import Derived.Laws.Tables
import Derived.Lib.Hide
import Derived.Lib.SliceRun
import Derived.Outline
import Derived.Sort.Walk0
import Derived.StillTail
import Derived.StillTailTactics
import Derived.WalkKit
import Derived.WalkLawsBesides
import Derived.WalkSpells
set_option linter.unusedVariables false
namespace Go.Proofs.YtcbodpcekjngbaaGreat
open Go.RowKit

set_option maxRecDepth 100000 in
set_option maxHeartbeats 1000000 in
theorem refMake_no (bp : Value) (b n : Int) (ws : List Int) (ms : List Txt) (vw vs : Value) (N1 N2 : Nat → Prop) (s : Txt) (w : World)
    (h1 : Row (Value.int .i64) N1 w vw ws) (h2 : Row encT N2 w vs ms) (hl1 : ws.length ≤ 1000000) (hl2 : ms.length ≤ 1000000) (hr : rightS b n ws ms = false) :
    Calls Tryz.prog 10 #[bp, sigV b n vw vs, .string ⟨s.toArray⟩] w fun e w' => e = .returned (.tuple #[.slice none 0 0, .int .i64 1]) ∧ Below w.heap.size w w' := by
  obtain ⟨a1, m1, k1, rfl⟩ := h1.slice
  obtain ⟨a2, m2, k2, rfl⟩ := h2.slice
  have B0 := Lib.hid (below_self_alloc w (sigC b n (.slice a1 m1 k1) (.slice a2 m2 k2)))
  have NT := Lib.hid (refRight_any b n ws ms (.slice a1 m1 k1) (.slice a2 m2 k2) N1 N2 _ (h1.keep B0.out) (h2.keep B0.out) hl1 hl2)
  rw [hr] at NT
  clear h1 h2 hr
  go_enter Tryz.func10, Tryz.ntmps10
  go_wp2_with fail
  refine NT.out.mono ?_
  rintro e w1 ⟨rfl, hb1⟩
  have B1 := Lib.hid (B0.out.trans (hb1.mono B0.out.size))
  clear hb1 NT
  go_wp2_with fail
  go_ret2
  exact ⟨rfl, B1.out⟩
/-- Both Makes by real books at one signature. -/
theorem both_make (b n : Int) (ws : List Int) (ms : List Txt) (vw vs : Value) (s : Txt) (w : World) (h1 : Row (Value.int .i64) (· < w.heap.size) w vw ws) (h2 : Row encT (· < w.heap.size) w vs ms) (hl1 : ws.length ≤ 1000000) (hl2 : ms.length ≤ 1000000) (hs : s.length ≤ 524288) :
    ∃ (l : List DSt) (er : Int), (l.length ≤ 2000000) ∧
      (∀ w' p kb, Below w.heap.size w w' → RealAt w' p kb → Calls Tryz.prog 8 #[.pointer (some ⟨p, 0, none⟩), sigV b n vw vs, .string ⟨s.toArray⟩] w' fun e w'' => ∃ v, e = .returned (.tuple #[v, .int .i64 er]) ∧ RowS (fun _ => True) w'' v l ∧ Below w'.heap.size w' w'') ∧
      (∀ w' q, Below w.heap.size w w' → w.heap.size ≤ q → RefRealAt w' q → Calls Tryz.prog 10 #[.pointer (some ⟨q, 0, none⟩), sigV b n vw vs, .string ⟨s.toArray⟩] w' fun e w'' => ∃ v, e = .returned (.tuple #[v, .int .i64 er]) ∧ RowS (fun _ => True) w'' v l ∧ Below q w' w'') := by
  cases hr : rightS b n ws ms with
  | false =>
    refine ⟨[], 1, by simp, fun w' p kb hb hA => ?_, fun w' q hb hq hA => ?_⟩
    · refine (make_no _ b n ws ms vw vs _ _ s w' (h1.keep hb) (h2.keep hb) hl1 hl2 hr).mono ?_
      rintro e w'' ⟨rfl, hb'⟩
      exact ⟨_, rfl, RowS.nil _ _ _ _, hb'⟩
    · refine (refMake_no _ b n ws ms vw vs _ _ s w' (h1.keep hb) (h2.keep hb) hl1 hl2 hr).mono ?_
      rintro e w'' ⟨rfl, hb'⟩
      exact ⟨_, rfl, RowS.nil _ _ _ _, hb'.mono (Nat.le_of_lt (Array.getElem?_eq_some_iff.1 (show w'.heap[q]? = _ from hA)).1)⟩
  | true =>
    obtain ⟨B, M, hR⟩ := right_is hr
    have e1 := hR.b
    have e2 := hR.n
    subst e1; subst e2
    refine ⟨makeS isRl ws ms B M s, 0, ?_, fun w' p kb hb hA => ?_, fun w' q hb hq hA => ?_⟩
    · have := steps_len (mtP isRl ws ms (M / B) B) (tlP isRl ws ms (M / B) B M) M B (by have := hR.b1; omega) s
      unfold makeS; omega
    · refine (make_ok (ask_real p kb) (by decide) (by decide) one_real B M ws ms vw vs _ _ s w' (h1.keep hb) (h2.keep hb) hr hR hA hs).mono ?_
      rintro e w'' ⟨v, rfl, ho, hb'⟩
      exact ⟨v, rfl, ho.row.mono (fun _ _ => trivial), hb'⟩
    · refine (refMake_ok (bookT_real q) (ty_real q) (fun _ _ _ _ _ _ => trivial) (fun _ _ _ _ _ _ => trivial) (fun _ _ _ _ _ => trivial) (fun _ => True) (fun _ _ _ _ _ => trivial) isRl B M ws ms vw vs _ _ s () w' (fun _ t i _ _ => by unfold isRl; exact decide_eq_decide.2 ⟨fun h => h.symm, fun h => h.symm⟩) hA trivial trivial (h1.keep hb) (h2.keep hb) (fun k hk => ⟨fun e => by have e' : k = q := e; omega, Nat.lt_of_lt_of_le hk hb.size⟩) (fun k hk => ⟨fun e => by have e' : k = q := e; omega, Nat.lt_of_lt_of_le hk hb.size⟩) hr hR hs).mono ?_
      rintro e w'' ⟨v, s', rfl, ho, _, hk, _⟩
      exact ⟨v, rfl, ho.row.mono (fun _ _ => trivial), hk.below (Nat.le_of_lt (Array.getElem?_eq_some_iff.1 (show w'.heap[q]? = _ from hA)).1) (fun k e => by have e' : k = q := e; omega)⟩

set_option maxRecDepth 100000 in
set_option maxHeartbeats 4000000 in
theorem deltaSigned_walk (v : Value) (s0 : Txt) (hs0 : s0.length ≤ 140737488351232) (w : World) (hv : SigIn w v) :
    Calls Tryz.prog 3 #[v, .string ⟨s0.toArray⟩] w fun e w' => e = .returned (.bool true) ∧ Below w.heap.size w w' := by
  obtain ⟨b, n, vw, vs, ws, ms, hsi⟩ := hv
  obtain rfl := hsi.val
  obtain ⟨a1, c1, rfl, hcc1⟩ := hsi.c1
  obtain ⟨a2, c2, rfl, hcc2⟩ := hsi.c2
  have CT := fun w' => Lib.hid (cutD_any s0 200 w' (by decide) hs0)
  have hs : (s0.take 200).length ≤ 200 := List.length_take_le _ _
  generalize s0.take 200 = s at *
  have hl1 := hsi.l1
  have hl2 := hsi.l2
  have hb0 := below_self_alloc w (sigC b n (.slice a1 ws.length c1) (.slice a2 ms.length c2))
  have HB0 := Lib.hid hb0
  have d0 := sig_c0 (heap_alloc_new w (sigC b n (.slice a1 ws.length c1) (.slice a2 ms.length c2)))
  have d1 := sig_c1 (heap_alloc_new w (sigC b n (.slice a1 ws.length c1) (.slice a2 ms.length c2)))
  have d2 := sig_c2 (heap_alloc_new w (sigC b n (.slice a1 ws.length c1) (.slice a2 ms.length c2)))
  have d3 := sig_c3 (heap_alloc_new w (sigC b n (.slice a1 ws.length c1) (.slice a2 ms.length c2)))
  by_cases hw : 30 < ws.length
  · have i1 : (30 : Int) < (ws.length : Int) := by omega
    clear hsi hb0
    go_enter Tryz.func3, Tryz.ntmps3
    go_wp2_with fail
    refine (CT _).out.mono ?_
    rintro e w' ⟨rfl, rfl⟩
    go_wp2_with fail
    refine (awake_any _).mono ?_
    rintro e w7 ⟨rfl, hb7⟩
    go_wp2_with fail
    go_ret
    exact ⟨rfl, HB0.out.trans (hb7.mono HB0.out.size)⟩
  · have i1 : ¬ (30 : Int) < (ws.length : Int) := by omega
    by_cases hm : 30 < ms.length
    · have i2 : (30 : Int) < (ms.length : Int) := by omega
      clear hsi hb0
      go_enter Tryz.func3, Tryz.ntmps3
      go_wp2_with fail
      refine (CT _).out.mono ?_
      rintro e w' ⟨rfl, rfl⟩
      go_wp2_with fail
      refine (awake_any _).mono ?_
      rintro e w7 ⟨rfl, hb7⟩
      go_wp2_with fail
      go_ret
      exact ⟨rfl, HB0.out.trans (hb7.mono HB0.out.size)⟩
    · have i2 : ¬ (30 : Int) < (ms.length : Int) := by omega
      obtain ⟨l, er, hll, hA, hR⟩ := both_make b n ws ms (.slice a1 ws.length c1) (.slice a2 ms.length c2) s w hsi.r1 hsi.r2 (by omega) (by omega) (by omega)
      have HA := Lib.hid hA
      have HR := Lib.hid hR
      have HWL := Lib.hid (heap_alloc_new w (sigC b n (.slice a1 ws.length c1) (.slice a2 ms.length c2)))
      clear hA hR hsi hb0 hw hm hl1 hl2
      go_enter Tryz.func3, Tryz.ntmps3
      go_wp2_with fail
      refine (CT _).out.mono ?_
      rintro e w' ⟨rfl, rfl⟩
      go_wp2_with fail
      generalize w.alloc (.cells #[.int .i64 b, .int .i64 n, .slice a1 ws.length c1, .slice a2 ms.length c2] 25) = w0 at *
      have RA := Lib.hid (real_any w0.drew)
      have HBD := Lib.hid (show Below w.heap.size w w0.drew from HB0.out.trans (Below_drew (Below.refl w.heap.size w0)))
      have z0 : w0.drew.cell? ⟨w.heap.size, 0, none⟩ = _ := d0
      have z1 : w0.drew.cell? ⟨w.heap.size, 1, none⟩ = _ := d1
      have z2 : w0.drew.cell? ⟨w.heap.size, 2, none⟩ = _ := d2
      have z3 : w0.drew.cell? ⟨w.heap.size, 3, none⟩ = _ := d3
      go_region_law (first
        | (go_simp; go_at_call 9; (refine RA.out.mono ?_); rintro e w3 ⟨p, kb, rfl, hA3, hp3, hkb3, hb3⟩; have e0 := (hb3.cell (World.block_lt_of_cell? w0.drew _ z0)).trans z0; have e1 := (hb3.cell (World.block_lt_of_cell? w0.drew _ z1)).trans z1; have e2 := (hb3.cell (World.block_lt_of_cell? w0.drew _ z2)).trans z2; have e3 := (hb3.cell (World.block_lt_of_cell? w0.drew _ z3)).trans z3; have HB3 := Lib.hid (HBD.out.trans (hb3.mono HBD.out.size)); have MK := Lib.hid (HA.out w3 p kb HB3.out hA3); clear hA3 hp3 hkb3 hb3)
        | (go_simp; go_at_call 8; (refine MK.out.mono ?_); rintro e w5 ⟨v5, rfl, r5, hb5⟩; have g0 := (hb5.cell (World.block_lt_of_cell? w3 _ e0)).trans e0; have g1 := (hb5.cell (World.block_lt_of_cell? w3 _ e1)).trans e1; have g2 := (hb5.cell (World.block_lt_of_cell? w3 _ e2)).trans e2; have g3 := (hb5.cell (World.block_lt_of_cell? w3 _ e3)).trans e3; have HB5 := Lib.hid (HB3.out.trans (hb5.mono HB3.out.size)); have R5 := Lib.hid r5; clear r5 hb5))
      all_goals
        have hb6 := below_self_alloc w5 (.cells #[.bool true, .slice none 0 0] 37)
        have k0 := (hb6.cell (World.block_lt_of_cell? w5 _ g0)).trans g0
        have k1 := (hb6.cell (World.block_lt_of_cell? w5 _ g1)).trans g1
        have k2 := (hb6.cell (World.block_lt_of_cell? w5 _ g2)).trans g2
        have k3 := (hb6.cell (World.block_lt_of_cell? w5 _ g3)).trans g3
        have HR6 := Lib.hid (refReal_new w5)
        have HB6 := Lib.hid (HB5.out.trans (hb6.mono HB5.out.size))
        have RM := Lib.hid (HR.out _ w5.heap.size HB6.out HB5.out.size HR6.out)
        have HK6 := Lib.hid hb6
        clear hb6
        go_wp2_with fail
        refine RM.out.mono ?_
        rintro e w7 ⟨v7, rfl, r7, hb7⟩
        have hb57 : Below w5.heap.size w5 w7 := HK6.out.trans hb7
        have EQ := Lib.hid (stepsEq_any _ _ v5 v7 l w7 (R5.out.keep hb57) r7 hll)
        have HB7 := Lib.hid (HB5.out.trans (hb57.mono HB5.out.size))
        have qe : (er == er) = true := by simp
        clear hb57 hb7 r7 RM
        go_wp2_with fail
        refine EQ.out.mono ?_
        rintro e w8 ⟨rfl, hb8⟩
        have HB8 := Lib.hid (HB7.out.trans (hb8.mono HB7.out.size))
        clear hb8 EQ
        go_wp2_with fail
        refine (awake_any _).mono ?_
        rintro e w9 ⟨rfl, hb9⟩
        go_wp2_with fail
        go_ret
        exact ⟨rfl, HB8.out.trans (hb9.mono HB8.out.size)⟩
end Go.Proofs.YtcbodpcekjngbaaGreat
