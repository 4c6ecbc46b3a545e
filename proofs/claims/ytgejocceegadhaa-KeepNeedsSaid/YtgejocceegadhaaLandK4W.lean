/- Landed keep: Check, Deepest. -/
import Derived.Test.YtgejocceegadhaaFrame
import Derived.Test.YtgejocceegadhaaGen
import Derived.Test.YtgejocceegadhaaKeepHoldMath
import Derived.Test.YtgejocceegadhaaKeepMath
import Derived.Test.YtgejocceegadhaaLandK3W
import Derived.Test.YtgejocceegadhaaLandKMath
import Derived.Test.YtgejocceegadhaaOwnL
import Derived.Test.YtgejocceegadhaaRowN
import Derived.Test.YtgejocceegadhaaRows
import Derived.Test.YtgejocceegadhaaShelf
import Derived.BigQuiet
import Derived.Deep.QuietTactic
import Derived.Deep.RegionHeld3
import Derived.Lib.Hide
import Derived.Outline
import Derived.WalkKit
import Derived.WalkLawsBesides
import Derived.WalkSpells
set_option linter.unusedVariables false
namespace Go.Proofs.Ytgejocceegadhaa
open Go.RowKit

set_option maxRecDepth 100000 in
theorem keepCheck_any (v : Value) (l : List GenD) (w : World) {N : Nat → Prop} (hrow : RowN encGn 4 N w v l) (hl : l.length ≤ 140737488351232) (hok : ∀ x ∈ l, GenOk x) : Calls Try.prog 19 #[v] w fun e w' => e = .returned (.int .i64 (checkG l)) ∧ Below w.heap.size w w' := by
  have DP := Lib.hid (depths_any v l w hrow hl hok)
  obtain ⟨va, vc, hv, _⟩ := hrow.slice
  subst hv
  clear hrow
  go_enter Try.func19, Try.ntmps19
  go_wp2_with fail
  refine DP.out.mono ?_
  rintro e w2 ⟨hb, ⟨hc, rfl⟩ | ⟨hc, rfl, hd⟩⟩
  · clear hc
    go_wp2_with fail
    go_ret
    exact ⟨rfl, hb⟩
  · have HC := Lib.hid hc
    clear hc hd
    go_wp2_with fail
    go_ret
    exact ⟨by rw [HC.out]; rfl, hb⟩
theorem DepIs.mem {D : DataW Unit} {l : List GenD} (h : DepIs D l) {g : Int} : Maps.has D (.int .i64 g) = true ↔ g ∈ l.map (·.gen) := by
  rw [h.has]
  exact decide_eq_true_iff
set_option maxRecDepth 100000 in
set_option maxHeartbeats 2000000 in
theorem keepDeepest_any (v : Value) (l : List GenD) (w : World) {N : Nat → Prop} (hrow : RowN encGn 4 N w v l) (hl : l.length ≤ 140737488351232) (hok : ∀ x ∈ l, GenOk x) : Calls Try.prog 18 #[v] w fun e w' => e = .returned (.tuple #[.int .i64 (deepG l : Nat), .int .i64 (checkG l)]) ∧ Below w.heap.size w w' := by
  have DP := Lib.hid (depths_any v l w hrow hl hok)
  obtain ⟨va, vc, hv, _⟩ := hrow.slice
  subst hv
  clear hrow
  by_cases hc : checkG l = 0
  · have HC := Lib.hid hc
    have HLE := Lib.hid (checkG_wf hc).2
    clear hc
    go_enter Try.func18, Try.ntmps18
    go_wp2_with fail
    refine DP.out.mono ?_
    rintro e w2 ⟨hb, ⟨hc, rfl⟩ | ⟨hc, rfl, hd⟩⟩
    · exact absurd HC.out hc
    · have HB := Lib.hid hb
      obtain ⟨D, hown, hdep⟩ := hd
      have HO := Lib.hid hown
      have HD := Lib.hid hdep
      have hws : w.heap.size ≤ w2.heap.size := hb.size
      clear hb hc hown hdep DP
      go_wp2_with (at_range; refine wpList_range_own _ rfl _ 52 rfl 3 3 intLaw Try.underlying52 (plainElem Try.prog 3) w.heap.size l.length D rfl HO.out ?_; intro w1 hr1 hg1 hs1; have HR1 := Lib.hid hr1; have HB1 := Lib.hid (HB.out.grown hg1 HB.out.size (fun j hj => by cases hj)); clear hr1 hg1 hs1; go_frame)
      go_loopw [6] (fun v6 wx => ∃ (left : Lit → Bool) (cnt m : Nat), v6 = .int .i64 (m : Nat) ∧ m ≤ 4096 ∧ wx.ranges Try.prog 3 (plainElem Try.prog 3) w.heap.size w2.heap.size l.length D left cnt ∧ Hid ((∀ g ∈ l.map (·.gen), left (.int .i64 g) = false → depG l g ≤ m) ∧ (m = 0 ∨ ∃ g ∈ l.map (·.gen), depG l g = m)) ∧ Below w.heap.size w wx) (fun _ wx => wx.rangeLeft w.heap.size w2.heap.size)
      case atStart =>
        exact ⟨_, _, 0, rfl, by omega, HR1.out, Lib.hid ⟨fun g hg h0 => by (rw [HD.out.mem.2 hg] at h0; cases h0), .inl rfl⟩, HB1.out⟩
      case round =>
        obtain ⟨left, cnt, m, rfl, hm, hrg, HS, hbel⟩ := hrel
        have HRG := Lib.hid hrg
        have HBE := Lib.hid hbel
        clear hrg hbel HR1 HB1 HO HB
        go_wp2_with (at_next; refine wpList_next_ranges_ii _ rfl _ rfl 3 3 .i64 .i64 intLaw Try.underlying3 Try.underlying3 w.heap.size w2.heap.size l.length D left cnt rfl HRG.out ?_ ?_)
        · intro hc0 hl0
          have HZ := Lib.hid (deepG_is HC.out (fun g hg => HS.out.1 g hg (hl0 _)) HS.out.2)
          clear hl0
          go_wp2
          go_ret2
          exact ⟨by rw [HZ.out, HC.out]; rfl, HBE.out⟩
        · intro x c w3 cnt2 hwx hwc hlx hat hr2 hlt hg2 hs2 hen
          have hxm : x ∈ l.map (·.gen) := HD.out.mem.1 (Maps.has_true_of_atKey hat)
          have hcx : c = (depG l x : Nat) := by
            have := (hat (.lit (.int .i64 0))).symm.trans (HD.out.at' x)
            injection this with e
            injection e with e1 e2
          have hdx := depG_le l x
          have hle := HLE.out
          have HXM := Lib.hid hxm
          have HDX := Lib.hid (show depG l x = depG l x from rfl)
          obtain ⟨dp, hdp⟩ : ∃ dp, dp = depG l x := ⟨_, rfl⟩
          rw [← hdp] at hcx hdx
          have HDP := Lib.hid hdp
          subst hcx
          have HB2 := Lib.hid (HBE.out.grown hg2 HBE.out.size (fun j hj => by cases hj; exact hws))
          have HR2 := Lib.hid hr2
          have HLT := Lib.hid hlt
          clear hat hwx hwc hlx hr2 hlt hg2 hs2 hxm HDX hdp
          go_wp2
          refine ⟨⟨_, _, max m dp, by congr 1; omega, by omega, HR2.out, Lib.hid ⟨fun g hg h0 => ?_, ?_⟩, HB2.out⟩, by rw [HR2.out.left_eq, HRG.out.left_eq]; exact HLT.out⟩
          · cases hlg : left (.int .i64 g) with
            | false => have := HS.out.1 g hg hlg; omega
            | true =>
              rw [hlg] at h0
              by_cases e : g = x
              · subst e
                have := HDP.out
                omega
              · rw [Maps.sameKey_ne (fun e' => e (by injection e'))] at h0
                cases h0
          · rcases Nat.le_total m dp with k | k
            · exact .inr ⟨x, HXM.out, by rw [← HDP.out]; omega⟩
            · rcases HS.out.2 with h0 | ⟨g, hg, h0⟩
              · exact .inl (by omega)
              · exact .inr ⟨g, hg, by omega⟩
  · have HZ := Lib.hid (show deepG l = 0 by unfold deepG; rw [if_pos hc])
    have HC := Lib.hid hc
    have q1 : (checkG l != 0) = true := by simp [hc]
    clear hc
    rw [HZ.out]
    generalize checkG l = ce at *
    go_enter Try.func18, Try.ntmps18
    go_wp2_with fail
    refine DP.out.mono ?_
    rintro e w2 ⟨hb, ⟨hc, rfl⟩ | ⟨hc, rfl, hd⟩⟩
    · clear hc
      go_wp2_with fail
      go_ret2
      exact ⟨rfl, hb⟩
    · exact absurd hc HC.out
end Go.Proofs.Ytgejocceegadhaa
