/- Landed keep: numbers within bounds, policies. -/
import Derived.Test.YtgejocceegadhaaFrame
import Derived.Test.YtgejocceegadhaaGen
import Derived.Test.YtgejocceegadhaaKeepHoldMath
import Derived.Test.YtgejocceegadhaaKeepMath
import Derived.Test.YtgejocceegadhaaOwnL
import Derived.Test.YtgejocceegadhaaRefKeepW
import Derived.Test.YtgejocceegadhaaRowN
import Derived.Test.YtgejocceegadhaaRows
import Derived.Test.YtgejocceegadhaaShelf
import Derived.BigQuiet
import Derived.Deep.QuietTactic
import Derived.Deep.RegionHeld3
import Derived.Maps.OwnOps
import Derived.Maps.OwnSet
import Derived.Maps.RangeWalk
set_option linter.unusedVariables false
namespace Go.Proofs.Ytgejocceegadhaa
open Go.RowKit

def withinB (n a b : Int) : Bool := decide (a ≤ n) && decide (n ≤ b)
theorem within_any (n a b : Int) (w : World) : Calls Try.prog 30 #[.int .i64 n, .int .i64 a, .int .i64 b] w fun e w' => e = .returned (.bool (withinB n a b)) ∧ w = w' := by
  by_cases h1 : a ≤ n
  · by_cases h2 : n ≤ b
    · have HZ := Lib.hid (show withinB n a b = true by unfold withinB; rw [decide_eq_true h1, decide_eq_true h2]; rfl)
      go_enter Try.func30, Try.ntmps30
      go_wp2_with fail
      go_ret
      exact ⟨by rw [HZ.out]; rfl, rfl⟩
    · have HZ := Lib.hid (show withinB n a b = false by unfold withinB; rw [decide_eq_true h1, decide_eq_false h2]; rfl)
      go_enter Try.func30, Try.ntmps30
      go_wp2_with fail
      go_ret
      exact ⟨by rw [HZ.out]; rfl, rfl⟩
  · have HZ := Lib.hid (show withinB n a b = false by unfold withinB; rw [decide_eq_false h1]; rfl)
    go_enter Try.func30, Try.ntmps30
    go_wp2_with fail
    go_ret
    exact ⟨by rw [HZ.out]; rfl, rfl⟩
set_option maxRecDepth 100000 in
theorem keepRight_any (l e : Int) (w : World) (h : PolIn l e) : Calls Try.prog 10 #[polV l e] w fun en w' => en = .returned (.bool (rightP l e)) ∧ Below w.heap.size w w' := by
  obtain ⟨⟨a1, a2⟩, a3, a4⟩ := h
  have HB := Lib.hid ((Below.refl _ w).alloc (Nat.le_refl _) (.cells #[.int .i64 l, .int .i64 e] 23))
  have W1 := fun X => Lib.hid (within_any l 1 1048576 X)
  have W2 := fun X => Lib.hid (within_any e 0 1048576 X)
  have HP := Lib.hid (show rightP l e = (withinB l 1 1048576 && withinB e 0 1048576) by
    unfold rightP withinB
    rw [Bool.eq_iff_iff]
    simp
    omega)
  unfold polV
  generalize withinB l 1 1048576 = b1 at *
  generalize withinB e 0 1048576 = b2 at *
  cases b1 with
  | true =>
    go_enter Try.func10, Try.ntmps10
    go_wp2_with fail
    refine (W1 _).out.mono ?_
    rintro en w2 ⟨rfl, ew⟩
    subst ew
    clear W1
    go_wp2_with fail
    refine (W2 _).out.mono ?_
    rintro en w2 ⟨rfl, ew⟩
    subst ew
    clear W2
    go_wp2_with fail
    go_ret
    exact ⟨by rw [HP.out]; rfl, HB.out⟩
  | false =>
    go_enter Try.func10, Try.ntmps10
    go_wp2_with fail
    refine (W1 _).out.mono ?_
    rintro en w2 ⟨rfl, ew⟩
    subst ew
    clear W1
    go_wp2_with fail
    go_ret
    exact ⟨by rw [HP.out]; rfl, HB.out⟩
set_option maxRecDepth 100000 in
set_option maxHeartbeats 2000000 in
theorem keepKeeps_any (l e g top : Int) (w : World) (h : PolIn l e) (hg : -9223372036854775808 ≤ g ∧ g ≤ 9223372036854775807) (ht : -9223372036854775808 ≤ top ∧ top ≤ 9223372036854775807) : Calls Try.prog 12 #[polV l e, .int .i64 g, .int .i64 top] w fun en w' => en = .returned (.bool (keepsP l e g top)) ∧ Below w.heap.size w w' := by
  have HBA := Lib.hid ((Below.refl _ w).alloc (Nat.le_refl _) (.cells #[.int .i64 l, .int .i64 e] 23))
  have hbx := heap_alloc_new w (.cells #[.int .i64 l, .int .i64 e] 23)
  have RR := fun X => Lib.hid (keepRight_any l e X h)
  have W1 := fun X => Lib.hid (within_any g 0 top X)
  obtain ⟨⟨a1, a2⟩, a3, a4⟩ := h
  obtain ⟨b1, b2⟩ := hg
  obtain ⟨c1, c2⟩ := ht
  unfold polV at RR ⊢
  obtain ⟨rp, hrp⟩ : ∃ rp, rp = rightP l e := ⟨_, rfl⟩
  have HRP := Lib.hid hrp
  rw [← hrp] at RR
  obtain ⟨bw, hbw⟩ : ∃ bw, bw = withinB g 0 top := ⟨_, rfl⟩
  have HBW := Lib.hid hbw
  rw [← hbw] at W1
  clear hbw
  go_enter Try.func12, Try.ntmps12
  go_wp2_with fail
  generalize w.alloc (.cells #[.int .i64 l, .int .i64 e] 23) = wA at *
  obtain ⟨nb, hnb⟩ : ∃ nb, nb = w.heap.size := ⟨_, rfl⟩
  rw [← hnb] at hbx ⊢
  clear hnb
  have HBX := Lib.hid hbx
  refine (RR _).out.mono ?_
  rintro en w2 ⟨rfl, hb2⟩
  have HB2 := Lib.hid (HBA.out.trans (hb2.mono HBA.out.size))
  have HX2 := Lib.hid ((Kept.new hb2 (fun _ => False)).old HBX.out id)
  have k0 : w2.cell? ⟨nb, 0, none⟩ = some (.int .i64 l) := by rw [cell_of_row _ _ _ _ _ _ HX2.out]; rfl
  have k1 : w2.cell? ⟨nb, 1, none⟩ = some (.int .i64 e) := by rw [cell_of_row _ _ _ _ _ _ HX2.out]; rfl
  clear hbx HBX hb2 RR hrp
  cases rp with
  | false =>
    have HZ := Lib.hid (show keepsP l e g top = false by unfold keepsP; rw [← HRP.out]; rfl)
    go_wp2_with fail
    go_ret
    exact ⟨by rw [HZ.out]; rfl, HB2.out⟩
  | true =>
    have hR := of_decide_eq_true (show decide _ = true from HRP.out.symm)
    cases bw with
    | false =>
      have HZ := Lib.hid (show keepsP l e g top = false by
        have : ¬ (0 ≤ g ∧ g ≤ top) := fun c => by
          have := HBW.out
          unfold withinB at this
          rw [decide_eq_true c.1, decide_eq_true c.2] at this
          exact absurd this (by simp)
        unfold keepsP; rw [decide_eq_false this]; simp)
      go_wp2_with fail
      refine (W1 _).out.mono ?_
      rintro en w3 ⟨rfl, ew⟩
      subst ew
      clear W1
      go_wp2_with fail
      go_ret
      exact ⟨by rw [HZ.out]; rfl, HB2.out⟩
    | true =>
      have hgt : 0 ≤ g ∧ g ≤ top := by
        have := HBW.out
        unfold withinB at this
        have := this.symm
        rw [Bool.and_eq_true] at this
        exact ⟨of_decide_eq_true this.1, of_decide_eq_true this.2⟩
      obtain ⟨g0, g1⟩ := hgt
      have HK := Lib.hid (show keepsP l e g top = (decide (top - g < l) || decide (0 < e ∧ g.tmod e = 0)) by unfold keepsP; rw [← HRP.out, decide_eq_true (show 0 ≤ g ∧ g ≤ top from ⟨g0, g1⟩)]; simp)
      have u1 : wrap64 (top - g) = top - g := IntWalk.wrap64_in _ (by omega)
      go_wp2_with fail
      refine (W1 _).out.mono ?_
      rintro en w3 ⟨rfl, ew⟩
      subst ew
      clear W1
      by_cases d2 : top - g < l
      · have HZ := Lib.hid (HK.out.trans (by rw [decide_eq_true d2] <;> rfl))
        go_wp2_with fail
        go_ret
        exact ⟨by rw [HZ.out]; rfl, HB2.out⟩
      · by_cases d3 : 0 < e
        · have u2 : wrap64 (g.tmod e) = g.tmod e := IntWalk.wrap64_in _ (by
            have h1 := Int.tmod_nonneg e g0
            have h2 := Int.tmod_lt_of_pos g d3
            omega)
          have u3 : IntKind.i64.wrap (g.tmod e) = g.tmod e := IntWalk.i64_in _ (by
            have h1 := Int.tmod_nonneg e g0
            have h2 := Int.tmod_lt_of_pos g d3
            omega)
          have e0 : ¬ e = 0 := by omega
          have e1 : (e == 0) = false := by simp; omega
          have HZ := Lib.hid (HK.out.trans (show _ = (decide (top - g < l) || g % e == 0) from by
            have ht : g.tmod e = g % e := Int.tmod_eq_emod_of_nonneg g0
            have hd : decide (0 < e ∧ g.tmod e = 0) = (g % e == 0) := by
              rw [ht]
              by_cases c : g % e = 0
              · rw [decide_eq_true ⟨d3, c⟩]; simp [c]
              · rw [decide_eq_false (fun k => c k.2)]; simp [c]
            rw [hd]))
          go_wp2_with fail
          go_ret
          exact ⟨by rw [HZ.out]; rfl, HB2.out⟩
        · have HZ := Lib.hid (HK.out.trans (show _ = decide (top - g < l) from by rw [decide_eq_false (show ¬ (0 < e ∧ g.tmod e = 0) from fun c => d3 c.1), Bool.or_false]))
          go_wp2_with fail
          go_ret
          exact ⟨by rw [HZ.out]; rfl, HB2.out⟩
theorem keepFloor_any (l e top : Int) (w : World) (h : PolIn l e) (ht : -9223372036854775808 ≤ top ∧ top ≤ 9223372036854775807) : Calls Try.prog 15 #[polV l e, .int .i64 top] w fun en w' => en = .returned (.int .i64 (floorP l e top)) ∧ Below w.heap.size w w' := by
  have HBA := Lib.hid ((Below.refl _ w).alloc (Nat.le_refl _) (.cells #[.int .i64 l, .int .i64 e] 23))
  have hbx := heap_alloc_new w (.cells #[.int .i64 l, .int .i64 e] 23)
  have RR := fun X => Lib.hid (keepRight_any l e X h)
  obtain ⟨⟨a1, a2⟩, a3, a4⟩ := h
  obtain ⟨c1, c2⟩ := ht
  unfold polV at RR ⊢
  obtain ⟨rp, hrp⟩ : ∃ rp, rp = rightP l e := ⟨_, rfl⟩
  have HRP := Lib.hid hrp
  have HF := Lib.hid (show floorP l e top = if rightP l e = true ∧ 0 ≤ top ∧ l ≤ top then top - l + 1 else 0 from rfl)
  rw [← hrp] at RR
  go_enter Try.func15, Try.ntmps15
  go_wp2_with fail
  generalize w.alloc (.cells #[.int .i64 l, .int .i64 e] 23) = wA at *
  obtain ⟨nb, hnb⟩ : ∃ nb, nb = w.heap.size := ⟨_, rfl⟩
  rw [← hnb] at hbx ⊢
  clear hnb
  have HBX := Lib.hid hbx
  refine (RR _).out.mono ?_
  rintro en w2 ⟨rfl, hb2⟩
  have HB2 := Lib.hid (HBA.out.trans (hb2.mono HBA.out.size))
  have HX2 := Lib.hid ((Kept.new hb2 (fun _ => False)).old HBX.out id)
  have k0 : w2.cell? ⟨nb, 0, none⟩ = some (.int .i64 l) := by rw [cell_of_row _ _ _ _ _ _ HX2.out]; rfl
  clear hbx HBX hb2 RR hrp
  cases rp with
  | false =>
    have HZ := Lib.hid (show floorP l e top = 0 by rw [HF.out, ← HRP.out]; simp)
    go_wp2_with fail
    go_ret
    exact ⟨by rw [HZ.out]; rfl, HB2.out⟩
  | true =>
    have hR := of_decide_eq_true (show decide _ = true from HRP.out.symm)
    by_cases d1 : top < l
    · have HZ := Lib.hid (show floorP l e top = 0 by rw [HF.out, if_neg (by omega)])
      go_wp2_with fail
      go_ret
      exact ⟨by rw [HZ.out]; rfl, HB2.out⟩
    · have HZ := Lib.hid (show floorP l e top = top - l + 1 by rw [HF.out, if_pos ⟨HRP.out.symm, by omega⟩])
      have u1 : wrap64 (top - l) = top - l := IntWalk.wrap64_in _ (by omega)
      have u2 : wrap64 (top - l + 1) = top - l + 1 := IntWalk.wrap64_in _ (by omega)
      go_wp2_with fail
      go_ret
      exact ⟨by rw [HZ.out]; rfl, HB2.out⟩
theorem stClone_any (s : List UInt8) (w : World) (hl : s.length ≤ 140737488351232) : Calls Try.prog 36 #[.string ⟨s.toArray⟩] w fun e w' => e = .returned (.string ⟨s.toArray⟩) ∧ Below w.heap.size w w' := by
  have CL := Lib.hid (Try.stringslite_Clone ⟨s.toArray⟩ w (by simp [ByteArray.size]; omega))
  go_enter Try.func36, Try.ntmps36
  go_wp2_with fail
  refine CL.out.mono ?_
  rintro e w2 ⟨rfl, hb⟩
  go_wp2_with fail
  go_ret
  exact ⟨rfl, hb⟩
def genV (x : GenD) : Value := .agg #[.int .i64 x.gen, .int .i64 x.basis, .int .i64 x.bytes, .string ⟨x.mark.toArray⟩]
theorem against_any (x : GenD) (g : Int) (w : World) : Calls Try.prog 40 #[genV x, .int .i64 g] w fun e w' => e = .returned (.int .i64 (Lib.compareInt x.gen g)) ∧ Below w.heap.size w w' := by
  have CC := fun X => Lib.hid (Try.cmp_Compare_int x.gen g X)
  obtain ⟨xg, xb, xn, xm⟩ := x
  have HB := Lib.hid ((Below.refl _ w).alloc (Nat.le_refl _) (.cells #[.int .i64 xg, .int .i64 xb, .int .i64 xn, .string ⟨xm.toArray⟩] 38))
  unfold genV
  dsimp only at CC ⊢
  generalize Lib.compareInt xg g = c at *
  go_enter Try.func40, Try.ntmps40
  go_wp2_with fail
  refine (CC _).out.mono ?_
  rintro e w2 ⟨rfl, ew⟩
  subst ew
  clear CC
  go_wp2_with fail
  go_ret
  exact ⟨rfl, HB.out⟩
end Go.Proofs.Ytgejocceegadhaa
