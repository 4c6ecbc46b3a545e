/- The walks of the laws PressWraps and PressOpens. -/
import Derived.Test.YtjlhhnkfedfdnaaAddNumsW
import Derived.Test.YtjlhhnkfedfdnaaFrame
import Derived.Test.YtjlhhnkfedfdnaaGen
import Derived.Test.YtjlhhnkfedfdnaaLooseMath
import Derived.Test.YtjlhhnkfedfdnaaLooseW
import Derived.Test.YtjlhhnkfedfdnaaMarkMath
import Derived.Test.YtjlhhnkfedfdnaaOwnL
import Derived.Test.YtjlhhnkfedfdnaaPressLawsW
import Derived.Test.YtjlhhnkfedfdnaaPressMath
import Derived.Test.YtjlhhnkfedfdnaaPressW
import Derived.Test.YtjlhhnkfedfdnaaReadW
import Derived.Test.YtjlhhnkfedfdnaaRefLoW
import Derived.Test.YtjlhhnkfedfdnaaRefPrW
import Derived.Test.YtjlhhnkfedfdnaaRefReadW
import Derived.Test.YtjlhhnkfedfdnaaRows
import Derived.Test.YtjlhhnkfedfdnaaShelf
import Derived.BigQuiet
import Derived.Deep.Cut
import Derived.Deep.DeepCutAuto
import Derived.Deep.QuietTactic
import Derived.Lib.Hide
import Derived.StillTail
import Derived.StillTailTactics
import Derived.WalkKit
import Derived.WalkLawsBesides
import Derived.WalkSpells
set_option linter.unusedVariables false
namespace Go.Proofs.Ytjlhhnkfedfdnaa
open Go.RowKit

set_option maxRecDepth 100000 in
set_option maxHeartbeats 1000000 in
theorem pressWraps_walk (s0 : Txt) (hs0 : s0.length ≤ 140737488351232) (w : World) :
    Calls Try.prog 8 #[.string ⟨s0.toArray⟩] w fun e w' => e = .returned (.bool true) ∧ Below w.heap.size w w' := by
  have CT := fun w' => Lib.hid (cut8_any s0 1200 w' (by decide) hs0)
  have hl : (s0.take 1200).length ≤ 1200 := List.length_take_le _ _
  generalize s0.take 1200 = s at *
  have WA := fun w' => Lib.hid (wrap_any s w' (by omega))
  have RA := fun w' => Lib.hid (refPress_any s w' (by omega))
  have hpl := press_len s (by omega)
  have HW := Lib.hid (show wrapS s = if (pressS s).length < s.length then 90 :: pressS s else 82 :: s from rfl)
  generalize wrapS s = u at *
  generalize pressS s = p at *
  have SL := Lib.hid (show (⟨p.toArray⟩ : ByteArray).size = p.length from rfl)
  have k1 : ¬ 9223372036854775807 < 1 + p.length := by omega
  have k2 : ¬ 9223372036854775807 < 1 + s.length := by omega
  by_cases h : p.length < s.length
  · have i1 : (p.length : Int) < (s.length : Int) := by omega
    rw [if_pos h] at HW
    have HU := Lib.hid (show (⟨u.toArray⟩ : ByteArray) = ⟨#[90]⟩ ++ ⟨p.toArray⟩ by rw [HW.out, cat1])
    rw [HU.out] at WA
    clear h HW HU
    go_enter Try.func8, Try.ntmps8
    go_wp2_with fail
    refine (CT _).out.mono ?_
    rintro e w' ⟨rfl, rfl⟩
    go_wp2_with fail
    refine (WA _).out.mono ?_
    rintro e w1 ⟨rfl, hb1⟩
    have HB1 := Lib.hid hb1
    clear hb1
    go_wp2_with fail
    refine (RA _).out.mono ?_
    rintro e w2 ⟨rfl, hb2⟩
    have HB2 := Lib.hid (HB1.out.trans (hb2.mono HB1.out.size))
    clear hb2
    go_wp2_with fail
    refine (awake8_any _).mono ?_
    rintro e w3 ⟨rfl, hb3⟩
    have HB3 := Lib.hid (HB2.out.trans (hb3.mono HB2.out.size))
    go_wp2_with fail
    go_ret
    exact ⟨rfl, HB3.out⟩
  · have i1 : ¬ (p.length : Int) < (s.length : Int) := by omega
    rw [if_neg h] at HW
    have HU := Lib.hid (show (⟨u.toArray⟩ : ByteArray) = ⟨#[82]⟩ ++ ⟨s.toArray⟩ by rw [HW.out, cat1])
    rw [HU.out] at WA
    clear h HW HU
    go_enter Try.func8, Try.ntmps8
    go_wp2_with fail
    refine (CT _).out.mono ?_
    rintro e w' ⟨rfl, rfl⟩
    go_wp2_with fail
    refine (WA _).out.mono ?_
    rintro e w1 ⟨rfl, hb1⟩
    have HB1 := Lib.hid hb1
    clear hb1
    go_wp2_with fail
    refine (RA _).out.mono ?_
    rintro e w2 ⟨rfl, hb2⟩
    have HB2 := Lib.hid (HB1.out.trans (hb2.mono HB1.out.size))
    clear hb2
    go_wp2_with fail
    refine (awake8_any _).mono ?_
    rintro e w3 ⟨rfl, hb3⟩
    have HB3 := Lib.hid (HB2.out.trans (hb3.mono HB2.out.size))
    go_wp2_with fail
    go_ret
    exact ⟨rfl, HB3.out⟩
set_option maxRecDepth 100000 in
set_option maxHeartbeats 1000000 in
theorem pressOpens_walk (s0 : Txt) (hs0 : s0.length ≤ 140737488351232) (w : World) :
    Calls Try.prog 9 #[.string ⟨s0.toArray⟩] w fun e w' => e = .returned (.bool true) ∧ Below w.heap.size w w' := by
  have CT := fun w' => Lib.hid (cut8_any s0 3000 w' (by decide) hs0)
  have hl : (s0.take 3000).length ≤ 3000 := List.length_take_le _ _
  generalize s0.take 3000 = s at *
  have SL := Lib.hid (show (⟨s.toArray⟩ : ByteArray).size = s.length from rfl)
  have OA := fun w' => Lib.hid (open_any s w' (by omega))
  go_enter Try.func9, Try.ntmps9
  go_wp2_with fail
  refine (CT _).out.mono ?_
  rintro e w' ⟨rfl, rfl⟩
  go_upto_region 2 with fail
  go_cut [26] (fun v26 wx => ∃ bad : Bool, v26 = .bool bad ∧ wx = w)
  case first =>
    by_cases h2 : 3 < s.length
    · have i3 : (3 : Int) < (s.length : Int) := by omega
      have i2 : (2 : Int) < (s.length : Int) := by omega
      have i1 : (1 : Int) < (s.length : Int) := by omega
      have n1 : 1 < s.length := by omega
      have n2 : 2 < s.length := by omega
      by_cases c0 : (127 : Int) < ((((⟨s.toArray⟩ : ByteArray)[1]'n1).toNat : Nat) : Int)
      · by_cases c1 : (127 : Int) < ((((⟨s.toArray⟩ : ByteArray)[2]'n2).toNat : Nat) : Int)
        · by_cases c2 : (3 : Int) < ((((⟨s.toArray⟩ : ByteArray)[3]'h2).toNat : Nat) : Int)
          all_goals
            go_wp2_with fail
            go_meet
            exact ⟨_, rfl, rfl⟩
        · go_wp2_with fail
          go_meet
          exact ⟨_, rfl, rfl⟩
      · go_wp2_with fail
        go_meet
        exact ⟨_, rfl, rfl⟩
    · have i2 : ¬ (3 : Int) < (s.length : Int) := by omega
      go_wp2_with fail
      go_meet
      exact ⟨_, rfl, rfl⟩
  case rest =>
    obtain ⟨bad, rfl, rfl⟩ := hcut
    cases bad with
    | true =>
      go_wp2_with fail
      refine (awake8_any _).mono ?_
      rintro e w3 ⟨rfl, hb3⟩
      go_wp2_with fail
      go_ret
      exact ⟨rfl, hb3⟩
    | false =>
      cases s with
      | nil =>
        go_wp2_with fail
        refine (OA _).out.mono ?_
        rintro e w1 ⟨rfl, hb1⟩
        have HB1 := Lib.hid hb1
        clear hb1
        go_wp2_with fail
        refine (awake8_any _).mono ?_
        rintro e w3 ⟨rfl, hb3⟩
        have HB3 := Lib.hid (HB1.out.trans (hb3.mono HB1.out.size))
        go_wp2_with fail
        go_ret
        exact ⟨rfl, HB3.out⟩
      | cons c t =>
        have EX := Lib.hid (show (⟨(c :: t).toArray⟩ : ByteArray).extract 1 (t.length + 1) = ⟨t.toArray⟩ from by rw [slice_toArray]; simp)
        have HO := Lib.hid (show openS (c :: t) = if c = 82 then (t, 0) else if c = 90 then looseS t else ([], 5) from rfl)
        have RA := fun w' => Lib.hid (refLoose_any t w' (by simp at hl; omega))
        have i0 : (0 : Int) < (t.length : Int) + 1 := by omega
        have i1 : (1 : Int) ≤ (t.length : Int) + 1 := by omega
        by_cases h1 : c = 82
        · rw [if_pos h1] at HO
          rw [HO.out] at OA
          dsimp only at OA
          rw [← EX.out] at OA
          subst h1
          go_wp2_with fail
          refine (OA _).out.mono ?_
          rintro e w1 ⟨rfl, hb1⟩
          have HB1 := Lib.hid hb1
          clear hb1
          go_wp2_with fail
          refine (awake8_any _).mono ?_
          rintro e w3 ⟨rfl, hb3⟩
          have HB3 := Lib.hid (HB1.out.trans (hb3.mono HB1.out.size))
          go_wp2_with fail
          go_ret
          exact ⟨rfl, HB3.out⟩
        · rw [if_neg h1] at HO
          by_cases h2 : c = 90
          · rw [if_pos h2] at HO
            rw [HO.out] at OA
            generalize looseS t = lo at *
            obtain ⟨lt, le⟩ := lo
            rw [← EX.out] at RA
            have hss : (lt == lt) = true := by simp
            have hee : (le == le) = true := by simp
            subst h2
            go_wp2_with fail
            refine (OA _).out.mono ?_
            rintro e w1 ⟨rfl, hb1⟩
            have HB1 := Lib.hid hb1
            clear hb1
            go_wp2_with fail
            refine (RA _).out.mono ?_
            rintro e w2 ⟨rfl, hb2⟩
            have HB2 := Lib.hid (HB1.out.trans (hb2.mono HB1.out.size))
            clear hb2
            go_wp2_with fail
            refine (awake8_any _).mono ?_
            rintro e w3 ⟨rfl, hb3⟩
            have HB3 := Lib.hid (HB2.out.trans (hb3.mono HB2.out.size))
            go_wp2_with fail
            go_ret
            exact ⟨rfl, HB3.out⟩
          · rw [if_neg h2] at HO
            rw [HO.out] at OA
            have hc : c.toNat ≠ 82 := fun e => h1 (UInt8.toNat_inj.1 e)
            have hc2 : c.toNat ≠ 90 := fun e => h2 (UInt8.toNat_inj.1 e)
            have h0 : 0 < (⟨(c :: t).toArray⟩ : ByteArray).size := Nat.succ_pos _
            have q1 : (((((⟨(c :: t).toArray⟩ : ByteArray)[0]'h0).toNat : Nat) : Int) == 82) = false := by
              show (((c.toNat : Nat) : Int) == 82) = false
              rw [beq_eq_false_iff_ne]; omega
            have q2 : (((((⟨(c :: t).toArray⟩ : ByteArray)[0]'h0).toNat : Nat) : Int) != 90) = true := by
              show (((c.toNat : Nat) : Int) != 90) = true
              rw [bne_iff_ne]; omega
            go_wp2_with fail
            refine (OA _).out.mono ?_
            rintro e w1 ⟨rfl, hb1⟩
            have HB1 := Lib.hid hb1
            clear hb1
            go_wp2_with fail
            refine (awake8_any _).mono ?_
            rintro e w3 ⟨rfl, hb3⟩
            have HB3 := Lib.hid (HB1.out.trans (hb3.mono HB1.out.size))
            go_wp2_with fail
            go_ret
            exact ⟨rfl, HB3.out⟩
end Go.Proofs.Ytjlhhnkfedfdnaa
