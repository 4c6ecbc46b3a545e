/- KeepFloors: the walk. -/
import Derived.Test.YtgejocceegadhaaFrame
import Derived.Test.YtgejocceegadhaaGen
import Derived.Test.YtgejocceegadhaaKeepAwakeW
import Derived.Test.YtgejocceegadhaaKeepHoldMath
import Derived.Test.YtgejocceegadhaaKeepMath
import Derived.Test.YtgejocceegadhaaLandK1W
import Derived.Test.YtgejocceegadhaaLandK3W
import Derived.Test.YtgejocceegadhaaLandK5W
import Derived.Test.YtgejocceegadhaaLandK9W
import Derived.Test.YtgejocceegadhaaOwnL
import Derived.Test.YtgejocceegadhaaRefKeepW
import Derived.Test.YtgejocceegadhaaRowN
import Derived.Test.YtgejocceegadhaaRows
import Derived.Test.YtgejocceegadhaaShelf
import Derived.BigQuiet
import Derived.BigRegion
import Derived.ChangeAlike
import Derived.Deep.QuietTactic
import Derived.Deep.RegionHeld3
import Derived.LoopIn
import Derived.LoopNIn
import Derived.Maps.OwnIn
import Derived.Maps.OwnOps
import Derived.Maps.OwnSet
import Derived.Maps.RangeWalk
import Derived.OwnWalkIn
import Derived.RangeFuncBound
import Derived.RangeFuncCalls
import Derived.RangeFuncLeaves
import Derived.RangeFuncNested
import Derived.RegionTactic
import Derived.Shelf.Abstract
import Derived.Shelf.RegionOpen
import Derived.TacticsInMore
import Derived.WalkKit
set_option linter.unusedVariables false
namespace Go.Proofs.Ytgejocceegadhaa
open Go.RowKit

theorem floorP_no {l e top : Int} (h : ¬ (rightP l e = true ∧ 0 ≤ top)) : floorP l e top = 0 := by
  unfold floorP
  rw [if_neg (fun c => h ⟨c.1, c.2.1⟩)]
theorem floorP_in {l e top : Int} (hr : rightP l e = true) (ht : 0 ≤ top) : (1 ≤ l ∧ l ≤ 1048576 ∧ 0 ≤ e ∧ e ≤ 1048576) ∧ 0 ≤ floorP l e top ∧ floorP l e top ≤ top ∧ top - floorP l e top < l ∧ (0 < floorP l e top → top - floorP l e top = l - 1) := by
  have h : 1 ≤ l ∧ l ≤ 1048576 ∧ 0 ≤ e ∧ e ≤ 1048576 := of_decide_eq_true hr
  refine ⟨h, ?_⟩
  unfold floorP
  by_cases c : l ≤ top
  · rw [if_pos ⟨hr, ht, c⟩]; omega
  · rw [if_neg (fun d => c d.2.2)]; omega
theorem keepsP_from {l e g top : Int} (hr : rightP l e = true) (ht : 0 ≤ top) (h1 : floorP l e top ≤ g) (h2 : g ≤ top) : keepsP l e g top = true := by
  obtain ⟨_, a, b, c, d⟩ := floorP_in hr ht
  unfold keepsP
  rw [hr, decide_eq_true (show 0 ≤ g ∧ g ≤ top by omega), decide_eq_true (show top - g < l by omega)]
  rfl
theorem keepsP_below {l e top : Int} (hr : rightP l e = true) (ht : 0 ≤ top) (hf : floorP l e top ≠ 0) (he : ¬ 0 < e) : keepsP l e (floorP l e top - 1) top = false := by
  obtain ⟨_, a, b, c, d⟩ := floorP_in hr ht
  have := d (by omega)
  unfold keepsP
  rw [decide_eq_false (show ¬ top - (floorP l e top - 1) < l by omega), decide_eq_false (show ¬ (0 < e ∧ (floorP l e top - 1).tmod e = 0) from fun k => he k.1)]
  simp
set_option maxRecDepth 100000 in
set_option maxHeartbeats 4000000 in
theorem keepFloors_walk (l e : Int) (h : PolIn l e) (top : Int) (t1 : -9223372036854775808 ≤ top) (t2 : top ≤ 9223372036854775807) (g : Int) (g1 : -9223372036854775808 ≤ g) (g2 : g ≤ 9223372036854775807) (w : World) :
    Calls Try.prog 4 #[polV l e, .int .i64 top, .int .i64 g] w fun e w' => e = .returned (.bool true) ∧ Below w.heap.size w w' := by
  have HBA := Lib.hid ((Below.refl _ w).alloc (Nat.le_refl _) (.cells #[.int .i64 l, .int .i64 e] 23))
  have hbx := heap_alloc_new w (.cells #[.int .i64 l, .int .i64 e] 23)
  have K1 := fun X => Lib.hid (keepFloor_any l e top X h ⟨t1, t2⟩)
  have K2 := fun X => Lib.hid (refRight12_any l e X h)
  have K3 := fun X q (hq : -9223372036854775808 ≤ q ∧ q ≤ 9223372036854775807) => Lib.hid (keepKeeps_any l e q top X h hq ⟨t1, t2⟩)
  have K5 := fun X => Lib.hid (awake12_any X)
  unfold polV at *
  have HPI := Lib.hid h
  clear h
  go_enter Try.func4, Try.ntmps4
  go_wp2_with fail
  generalize w.alloc (.cells #[.int .i64 l, .int .i64 e] 23) = wA at *
  obtain ⟨nb, hnb⟩ : ∃ nb, nb = w.heap.size := ⟨_, rfl⟩
  rw [← hnb] at hbx ⊢
  clear hnb
  have HBX := Lib.hid hbx
  have k0 : wA.cell? ⟨nb, 0, none⟩ = some (.int .i64 l) := by rw [cell_of_row _ _ _ _ _ _ HBX.out]; rfl
  have k1 : wA.cell? ⟨nb, 1, none⟩ = some (.int .i64 e) := by rw [cell_of_row _ _ _ _ _ _ HBX.out]; rfl
  clear hbx
  go_wp2_with fail
  refine (K1 _).out.mono ?_
  rintro en w1 ⟨rfl, hb1⟩
  have HB1 := Lib.hid (HBA.out.trans (hb1.mono HBA.out.size))
  have HX1 := Lib.hid ((Kept.new hb1 (fun _ => False)).old HBX.out id)
  clear k0 k1 HBX hb1 K1
  have k0 : w1.cell? ⟨nb, 0, none⟩ = some (.int .i64 l) := by rw [cell_of_row _ _ _ _ _ _ HX1.out]; rfl
  have k1 : w1.cell? ⟨nb, 1, none⟩ = some (.int .i64 e) := by rw [cell_of_row _ _ _ _ _ _ HX1.out]; rfl
  go_wp2_with fail
  refine (K2 _).out.mono ?_
  rintro en w2 ⟨rfl, hb2⟩
  have HB2 := Lib.hid (HB1.out.trans (hb2.mono HB1.out.size))
  have HX2 := Lib.hid ((Kept.new hb2 (fun _ => False)).old HX1.out id)
  clear k0 k1 HX1 hb2 K2 HB1 HBA
  have k0 : w2.cell? ⟨nb, 0, none⟩ = some (.int .i64 l) := by rw [cell_of_row _ _ _ _ _ _ HX2.out]; rfl
  have k1 : w2.cell? ⟨nb, 1, none⟩ = some (.int .i64 e) := by rw [cell_of_row _ _ _ _ _ _ HX2.out]; rfl
  by_cases hrt : rightP l e = true ∧ 0 ≤ top
  case neg =>
    have hz := floorP_no hrt
    rw [hz]
    clear HX2 k0 k1
    have hor : rightP l e = false ∨ (rightP l e = true ∧ top < 0) := by
      cases hq : rightP l e with
      | false => exact .inl rfl
      | true => exact .inr ⟨rfl, by rcases Int.lt_or_le top 0 with c | c; exact c; exact absurd ⟨hq, c⟩ hrt⟩
    rcases hor with hr | ⟨hr, ht⟩
    · rw [hr]
      go_wp2_with fail
      refine (K5 _).out.mono ?_
      rintro en w5 ⟨rfl, hb5⟩
      have HB5 := Lib.hid (HB2.out.trans (hb5.mono HB2.out.size))
      go_wp2_with fail
      go_ret
      exact ⟨rfl, HB5.out⟩
    · rw [hr]
      go_wp2_with fail
      refine (K5 _).out.mono ?_
      rintro en w5 ⟨rfl, hb5⟩
      have HB5 := Lib.hid (HB2.out.trans (hb5.mono HB2.out.size))
      go_wp2_with fail
      go_ret
      exact ⟨rfl, HB5.out⟩
  obtain ⟨hr, ht⟩ := hrt
  rw [hr]
  obtain ⟨hp, f0, f1, f2, f3⟩ := floorP_in hr ht
  have HKG := Lib.hid (fun h1 h2 => keepsP_from (l := l) (e := e) (g := g) hr ht h1 h2)
  have HKB := Lib.hid (fun hf he => keepsP_below (l := l) (e := e) hr ht hf he)
  generalize floorP l e top = f at *
  have u1 : wrap64 (top - f) = top - f := IntWalk.wrap64_in _ (by omega)
  have u2 : wrap64 (l - 1) = l - 1 := IntWalk.wrap64_in _ (by omega)
  clear hr
  by_cases hf : f = 0
  · subst hf
    clear HKB f3
    by_cases hg1 : g < 0
    · have HBz := Lib.hid HB2.out
      go_wp2_with fail
      refine (K5 _).out.mono ?_
      rintro en w5 ⟨rfl, hb5⟩
      have HB5 := Lib.hid (HBz.out.trans (hb5.mono HBz.out.size))
      clear hb5
      go_wp2_with fail
      go_ret
      exact ⟨rfl, HB5.out⟩
    · by_cases hg2 : top < g
      · have HBz := Lib.hid HB2.out
        go_wp2_with fail
        refine (K5 _).out.mono ?_
        rintro en w5 ⟨rfl, hb5⟩
        have HB5 := Lib.hid (HBz.out.trans (hb5.mono HBz.out.size))
        clear hb5
        go_wp2_with fail
        go_ret
        exact ⟨rfl, HB5.out⟩
      · have KG := Lib.hid (HKG.out (by omega) (by omega))
        have K6 := fun X => Lib.hid (show Calls Try.prog 12 #[.agg #[.int .i64 l, .int .i64 e], .int .i64 g, .int .i64 top] X fun en w' => en = .returned (.bool true) ∧ Below X.heap.size X w' from by
          have := (K3 X g ⟨g1, g2⟩).out
          rw [KG.out] at this
          exact this)
        go_wp2_with fail
        refine (K6 _).out.mono ?_
        rintro en w3 ⟨rfl, hb3⟩
        have HBz := Lib.hid (HB2.out.trans (hb3.mono HB2.out.size))
        have HX3 := Lib.hid ((Kept.new hb3 (fun _ => False)).old HX2.out id)
        clear k0 k1 hb3
        have k0 : w3.cell? ⟨nb, 0, none⟩ = some (.int .i64 l) := by rw [cell_of_row _ _ _ _ _ _ HX3.out]; rfl
        have k1 : w3.cell? ⟨nb, 1, none⟩ = some (.int .i64 e) := by rw [cell_of_row _ _ _ _ _ _ HX3.out]; rfl
        go_wp2_with fail
        refine (K5 _).out.mono ?_
        rintro en w5 ⟨rfl, hb5⟩
        have HB5 := Lib.hid (HBz.out.trans (hb5.mono HBz.out.size))
        clear hb5
        go_wp2_with fail
        go_ret
        exact ⟨rfl, HB5.out⟩
  · have hfp : 0 < f := by omega
    have HF3 := f3 hfp
    have HKB := Lib.hid (HKB.out hf)
    have q1 : (top - f != l - 1) = false := by simp [HF3]
    have q2 : (f == 0) = false := by simp [hf]
    clear f3 hf
    by_cases hg1 : g < f
    · have HBz := Lib.hid HB2.out
      by_cases he : 0 < e
      · go_wp2_with fail
        refine (K5 _).out.mono ?_
        rintro en w5 ⟨rfl, hb5⟩
        have HB5 := Lib.hid (HBz.out.trans (hb5.mono HBz.out.size))
        clear hb5
        go_wp2_with fail
        go_ret
        exact ⟨rfl, HB5.out⟩
      · have KB := Lib.hid (HKB.out (by omega))
        have K4 := fun X => Lib.hid (show Calls Try.prog 12 #[.agg #[.int .i64 l, .int .i64 e], .int .i64 (f - 1), .int .i64 top] X fun en w' => en = .returned (.bool false) ∧ Below X.heap.size X w' from by
          have := (K3 X (f - 1) ⟨by omega, by omega⟩).out
          rw [KB.out] at this
          exact this)
        have uf : wrap64 (f - 1) = f - 1 := IntWalk.wrap64_in _ (by omega)
        go_wp2_with fail
        refine (K4 _).out.mono ?_
        rintro en w4 ⟨rfl, hb4⟩
        have HBz := Lib.hid (HBz.out.trans (hb4.mono HBz.out.size))
        clear hb4
        go_wp2_with fail
        refine (K5 _).out.mono ?_
        rintro en w5 ⟨rfl, hb5⟩
        have HB5 := Lib.hid (HBz.out.trans (hb5.mono HBz.out.size))
        clear hb5
        go_wp2_with fail
        go_ret
        exact ⟨rfl, HB5.out⟩
    · by_cases hg2 : top < g
      · have HBz := Lib.hid HB2.out
        by_cases he : 0 < e
        · go_wp2_with fail
          refine (K5 _).out.mono ?_
          rintro en w5 ⟨rfl, hb5⟩
          have HB5 := Lib.hid (HBz.out.trans (hb5.mono HBz.out.size))
          clear hb5
          go_wp2_with fail
          go_ret
          exact ⟨rfl, HB5.out⟩
        · have KB := Lib.hid (HKB.out (by omega))
          have K4 := fun X => Lib.hid (show Calls Try.prog 12 #[.agg #[.int .i64 l, .int .i64 e], .int .i64 (f - 1), .int .i64 top] X fun en w' => en = .returned (.bool false) ∧ Below X.heap.size X w' from by
            have := (K3 X (f - 1) ⟨by omega, by omega⟩).out
            rw [KB.out] at this
            exact this)
          have uf : wrap64 (f - 1) = f - 1 := IntWalk.wrap64_in _ (by omega)
          go_wp2_with fail
          refine (K4 _).out.mono ?_
          rintro en w4 ⟨rfl, hb4⟩
          have HBz := Lib.hid (HBz.out.trans (hb4.mono HBz.out.size))
          clear hb4
          go_wp2_with fail
          refine (K5 _).out.mono ?_
          rintro en w5 ⟨rfl, hb5⟩
          have HB5 := Lib.hid (HBz.out.trans (hb5.mono HBz.out.size))
          clear hb5
          go_wp2_with fail
          go_ret
          exact ⟨rfl, HB5.out⟩
      · have KG := Lib.hid (HKG.out (by omega) (by omega))
        have K6 := fun X => Lib.hid (show Calls Try.prog 12 #[.agg #[.int .i64 l, .int .i64 e], .int .i64 g, .int .i64 top] X fun en w' => en = .returned (.bool true) ∧ Below X.heap.size X w' from by
          have := (K3 X g ⟨g1, g2⟩).out
          rw [KG.out] at this
          exact this)
        go_wp2_with fail
        refine (K6 _).out.mono ?_
        rintro en w3 ⟨rfl, hb3⟩
        have HBz := Lib.hid (HB2.out.trans (hb3.mono HB2.out.size))
        have HX3 := Lib.hid ((Kept.new hb3 (fun _ => False)).old HX2.out id)
        clear k0 k1 hb3
        have k0 : w3.cell? ⟨nb, 0, none⟩ = some (.int .i64 l) := by rw [cell_of_row _ _ _ _ _ _ HX3.out]; rfl
        have k1 : w3.cell? ⟨nb, 1, none⟩ = some (.int .i64 e) := by rw [cell_of_row _ _ _ _ _ _ HX3.out]; rfl
        by_cases he : 0 < e
        · go_wp2_with fail
          refine (K5 _).out.mono ?_
          rintro en w5 ⟨rfl, hb5⟩
          have HB5 := Lib.hid (HBz.out.trans (hb5.mono HBz.out.size))
          clear hb5
          go_wp2_with fail
          go_ret
          exact ⟨rfl, HB5.out⟩
        · have KB := Lib.hid (HKB.out (by omega))
          have K4 := fun X => Lib.hid (show Calls Try.prog 12 #[.agg #[.int .i64 l, .int .i64 e], .int .i64 (f - 1), .int .i64 top] X fun en w' => en = .returned (.bool false) ∧ Below X.heap.size X w' from by
            have := (K3 X (f - 1) ⟨by omega, by omega⟩).out
            rw [KB.out] at this
            exact this)
          have uf : wrap64 (f - 1) = f - 1 := IntWalk.wrap64_in _ (by omega)
          go_wp2_with fail
          refine (K4 _).out.mono ?_
          rintro en w4 ⟨rfl, hb4⟩
          have HBz := Lib.hid (HBz.out.trans (hb4.mono HBz.out.size))
          clear hb4
          go_wp2_with fail
          refine (K5 _).out.mono ?_
          rintro en w5 ⟨rfl, hb5⟩
          have HB5 := Lib.hid (HBz.out.trans (hb5.mono HBz.out.size))
          clear hb5
          go_wp2_with fail
          go_ret
          exact ⟨rfl, HB5.out⟩
end Go.Proofs.Ytgejocceegadhaa
