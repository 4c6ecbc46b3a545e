/- The document's Order, Within, shared. -/
import Derived.Test.YtamiacmnobklaaaGreatDoorGen
import Derived.Test.YtamiacmnobklaaaGreatDoorMarkMath
import Derived.Test.YtamiacmnobklaaaGreatDoorCdX
import Derived.Test.YtamiacmnobklaaaGreatDoorRowN
import Derived.Test.YtamiacmnobklaaaGreatDoorRows
import Derived.Test.YtamiacmnobklaaaGreatDoorTreeMath
import Derived.BigQuiet
import Derived.Deep.Cut
import Derived.Deep.CutRange
import Derived.Deep.DeepCutAuto
import Derived.Deep.QuietTactic
import Derived.Lib.Hide
import Derived.OpenShut
import Derived.ProofKit
import Derived.ShutString
import Derived.SizedLaws
import Derived.SliceStrings
import Derived.WalkKit
import Derived.WalkLawsBesides
import Derived.WalkSpells
set_option linter.unusedVariables false
namespace Go.Proofs.YtamiacmnobklaaaGreatDoor
open Go.RowKit

theorem kbAt_end {a : Txt} {i : Nat} (h : ¬ i < a.length) : kbAt a i = -1 := by unfold kbAt; rw [List.getElem?_eq_none (by omega)]
theorem kbAt_in {a : Txt} {i : Nat} (h : i < a.length) : kbAt a i = kb a[i] := by unfold kbAt; rw [List.getElem?_eq_getElem h]
set_option maxRecDepth 100000 in
set_option maxHeartbeats 1000000 in
theorem refOrder_any (a b : Txt) (w : World) (ha : a.length ≤ 140737488351232) (hb : b.length ≤ 140737488351232) :
    Calls Tryz.prog 72 #[.string ⟨a.toArray⟩, .string ⟨b.toArray⟩] w fun e w' => e = .returned (.int .i64 (ordS a b)) ∧ w = w' := by
  have SA := Lib.hid (show (⟨a.toArray⟩ : ByteArray).size = a.length from rfl)
  have SB := Lib.hid (show (⟨b.toArray⟩ : ByteArray).size = b.length from rfl)
  have H0 := Lib.hid (show ordS (a.drop 0) (b.drop 0) = ordS a b from rfl)
  generalize ordS a b = res at *
  go_enter Tryz.func72, Tryz.ntmps72
  go_wp2_with fail
  go_loopw [5] (fun v5 wr => ∃ i : Nat, i ≤ a.length + b.length ∧ v5 = .int .i64 i ∧ Hid (ordS (a.drop i) (b.drop i) = res) ∧ w = wr) (fun v5 _ => a.length + b.length - (intOf v5).toNat)
  case atStart => exact ⟨0, by omega, rfl, H0, rfl⟩
  case round =>
    clear H0
    obtain ⟨i, hi, rfl, HA, rfl⟩ := hrel
    have i0 : (0 : Int) ≤ (i : Int) := by omega
    by_cases hin : i < a.length ∨ i < b.length
    · have HT := Lib.hid (ordS_at a b i)
      have hcond : (i : Int) < (a.length : Int) ∨ (¬ (i : Int) < (a.length : Int) ∧ (i : Int) < (b.length : Int)) := by omega
      obtain ⟨ka, hka⟩ : ∃ ka, ka = kbAt a i := ⟨_, rfl⟩
      obtain ⟨kc, hkc⟩ : ∃ kc, kc = kbAt b i := ⟨_, rfl⟩
      have HKA := Lib.hid hka
      have HKC := Lib.hid hkc
      have HH := Lib.hid (show (if ka < kc then (-1 : Int) else if kc < ka then 1 else ordS (a.drop (i + 1)) (b.drop (i + 1))) = res by
        rw [← HA.out, HT.out, if_pos hin, ← hka, ← hkc])
      have HIN := Lib.hid hin
      clear HA HT hin hka hkc
      rcases hcond with c1 | ⟨c1, c2⟩
      all_goals
        go_upto_if 23 with fail
        go_cut [6] from 8 to 51 (fun v6 wx => v6 = .int .i64 ka ∧ w = wx)
        case first =>
          by_cases h : i < a.length
          · first
            | (exfalso; omega)
            | (have j1 : (i : Int) < (a.length : Int) := by omega
               have d1 : decide ((i : Int) < (a.length : Int)) = true := decide_eq_true j1
               have d2 : decide (i < a.length) = true := decide_eq_true h
               have e : (⟨a.toArray⟩ : ByteArray)[i]'h = a[i] := rfl
               by_cases hc : a[i] = 47
               · have q : (((((⟨a.toArray⟩ : ByteArray)[i]'h).toNat : Nat) : Int) == 47) = true := by rw [e, hc]; rfl
                 have HK := Lib.hid (show ka = 0 by rw [HKA.out, kbAt_in h, hc]; rfl)
                 clear hc e
                 go_wp2_with fail
                 go_meet
                 exact ⟨by rw [HK.out], rfl⟩
               · have q : (((((⟨a.toArray⟩ : ByteArray)[i]'h).toNat : Nat) : Int) == 47) = false := by
                   rw [e, beq_eq_false_iff_ne]
                   intro h2
                   exact hc (UInt8.toNat_inj.1 (by show a[i].toNat = 47; omega))
                 have HK := Lib.hid (show ka = ((((⟨a.toArray⟩ : ByteArray)[i]'h).toNat : Nat) : Int) + 1 by rw [HKA.out, kbAt_in h]; exact if_neg hc)
                 have hby := ((⟨a.toArray⟩ : ByteArray)[i]'h).toNat_lt
                 clear hc e
                 go_wp2_with fail
                 go_meet
                 exact ⟨by rw [HK.out], rfl⟩)
          · first
            | (exfalso; omega)
            | (have j1 : ¬ (i : Int) < (a.length : Int) := by omega
               have d1 : decide ((i : Int) < (a.length : Int)) = false := decide_eq_false j1
               have d2 : decide (i < a.length) = false := decide_eq_false h
               have HK := Lib.hid (show ka = -1 by rw [HKA.out, kbAt_end h])
               go_wp2_with fail
               go_meet
               exact ⟨by rw [HK.out], rfl⟩)
        case rest =>
          obtain ⟨rfl, rfl⟩ := hcut
          go_upto_if 36 with fail
          go_cut [7] from 8 to 51 (fun v7 wx => v7 = .int .i64 kc ∧ w = wx)
          case first =>
            by_cases h : i < b.length
            · first
              | (exfalso; omega)
              | (have j1 : (i : Int) < (b.length : Int) := by omega
                 have d1 : decide ((i : Int) < (b.length : Int)) = true := decide_eq_true j1
                 have d2 : decide (i < b.length) = true := decide_eq_true h
                 have e : (⟨b.toArray⟩ : ByteArray)[i]'h = b[i] := rfl
                 by_cases hc : b[i] = 47
                 · have q : (((((⟨b.toArray⟩ : ByteArray)[i]'h).toNat : Nat) : Int) == 47) = true := by rw [e, hc]; rfl
                   have HK := Lib.hid (show kc = 0 by rw [HKC.out, kbAt_in h, hc]; rfl)
                   clear hc e
                   go_wp2_with fail
                   go_meet
                   exact ⟨by rw [HK.out], rfl⟩
                 · have q : (((((⟨b.toArray⟩ : ByteArray)[i]'h).toNat : Nat) : Int) == 47) = false := by
                     rw [e, beq_eq_false_iff_ne]
                     intro h2
                     exact hc (UInt8.toNat_inj.1 (by show b[i].toNat = 47; omega))
                   have HK := Lib.hid (show kc = ((((⟨b.toArray⟩ : ByteArray)[i]'h).toNat : Nat) : Int) + 1 by rw [HKC.out, kbAt_in h]; exact if_neg hc)
                   have hby := ((⟨b.toArray⟩ : ByteArray)[i]'h).toNat_lt
                   clear hc e
                   go_wp2_with fail
                   go_meet
                   exact ⟨by rw [HK.out], rfl⟩)
            · first
              | (exfalso; omega)
              | (have j1 : ¬ (i : Int) < (b.length : Int) := by omega
                 have d1 : decide ((i : Int) < (b.length : Int)) = false := decide_eq_false j1
                 have d2 : decide (i < b.length) = false := decide_eq_false h
                 have HK := Lib.hid (show kc = -1 by rw [HKC.out, kbAt_end h])
                 go_wp2_with fail
                 go_meet
                 exact ⟨by rw [HK.out], rfl⟩)
          case rest =>
            obtain ⟨rfl, rfl⟩ := hcut
            by_cases h1 : ka < kc
            · have HR := Lib.hid (show -1 = res by rw [← HH.out, if_pos h1])
              go_wp2_with fail
              go_ret
              exact ⟨by rw [← HR.out]; rfl, rfl⟩
            · by_cases h2 : kc < ka
              · have HR := Lib.hid (show 1 = res by rw [← HH.out, if_neg h1, if_pos h2])
                go_wp2_with fail
                go_ret
                exact ⟨by rw [← HR.out]; rfl, rfl⟩
              · have HR := Lib.hid (show ordS (a.drop (i + 1)) (b.drop (i + 1)) = res by rw [← HH.out, if_neg h1, if_neg h2])
                go_wp2_with fail
                go_roundw
                case rel => exact ⟨i + 1, by have := HIN.out; omega, by go_num, HR, trivial⟩
                case measure => have := HIN.out; simp [intOf]; omega
    · have j1 : ¬ (i : Int) < (a.length : Int) := by omega
      have j2 : ¬ (i : Int) < (b.length : Int) := by omega
      have HR := Lib.hid (show 0 = res by rw [← HA.out, ordS_at, if_neg hin])
      clear HA hin
      go_wp2_with fail
      go_ret
      exact ⟨by rw [← HR.out]; rfl, rfl⟩
set_option maxRecDepth 100000 in
set_option maxHeartbeats 1000000 in
theorem refWithin_any (s i : Txt) (w : World) (hs : s.length ≤ 140737488351232) (hi : i.length ≤ 140737488351232) :
    Calls Tryz.prog 73 #[.string ⟨s.toArray⟩, .string ⟨i.toArray⟩] w fun e w' => e = .returned (.bool (withinS s i)) ∧ w = w' := by
  have SS := Lib.hid (show (⟨s.toArray⟩ : ByteArray).size = s.length from rfl)
  have SI := Lib.hid (show (⟨i.toArray⟩ : ByteArray).size = i.length from rfl)
  by_cases h : i.length < s.length
  · have j : (i.length : Int) < (s.length : Int) := by omega
    have j2 : (i.length : Int) + 1 ≤ (s.length : Int) := by omega
    have EX := show (⟨s.toArray⟩ : ByteArray).extract 0 (i.length + 1) = ⟨(s.take (i.length + 1)).toArray⟩ from take_toArray s (i.length + 1)
    have EA := show (⟨i.toArray⟩ : ByteArray) ++ ⟨#[47]⟩ = ⟨(i ++ [47]).toArray⟩ by apply ByteArray.ext; simp
    have k1 : ¬ 9223372036854775807 < i.length + 1 := by omega
    have HR := Lib.hid (show withinS s i = (s.take (i.length + 1) == i ++ [47]) by unfold withinS; rw [decide_eq_true h, Bool.true_and])
    generalize s.take (i.length + 1) = X at *
    generalize i ++ [47] = Y at *
    clear h
    go_enter Tryz.func73, Tryz.ntmps73
    go_wp2_with fail
    go_ret
    exact ⟨by rw [HR.out]; rfl, rfl⟩
  · have j : ¬ (i.length : Int) < (s.length : Int) := by omega
    have HR := Lib.hid (show withinS s i = false by unfold withinS; rw [decide_eq_false h, Bool.false_and])
    clear h
    go_enter Tryz.func73, Tryz.ntmps73
    go_wp2_with fail
    go_ret
    exact ⟨by rw [HR.out]; rfl, rfl⟩
theorem sharedS_at (a b : Txt) (i : Nat) (ha : i < a.length) (hb : i < b.length) : sharedS (a.drop i) (b.drop i) = if a[i] = b[i] then sharedS (a.drop (i + 1)) (b.drop (i + 1)) + 1 else 0 := by
  rw [List.drop_eq_getElem_cons ha, List.drop_eq_getElem_cons hb]; rfl
theorem sharedS_end (a b : Txt) (i : Nat) (h : ¬ (i < a.length ∧ i < b.length)) : sharedS (a.drop i) (b.drop i) = 0 := by
  by_cases ha : i < a.length
  · rw [show b.drop i = [] from List.drop_eq_nil_of_le (by omega), List.drop_eq_getElem_cons ha]; rfl
  · rw [show a.drop i = [] from List.drop_eq_nil_of_le (by omega)]; rfl
set_option maxRecDepth 100000 in
set_option maxHeartbeats 1000000 in
theorem refShared_any (a b : Txt) (w : World) (ha : a.length ≤ 140737488351232) (hb : b.length ≤ 140737488351232) :
    Calls Tryz.prog 90 #[.string ⟨a.toArray⟩, .string ⟨b.toArray⟩] w fun e w' => e = .returned (.int .i64 (sharedS a b : Nat)) ∧ Below w.heap.size w w' := by
  have SA := Lib.hid (show (⟨a.toArray⟩ : ByteArray).size = a.length from rfl)
  have SB := Lib.hid (show (⟨b.toArray⟩ : ByteArray).size = b.length from rfl)
  have H0 := Lib.hid (show 0 + sharedS (a.drop 0) (b.drop 0) = sharedS a b by rw [Nat.zero_add]; rfl)
  generalize sharedS a b = res at *
  go_enter Tryz.func90, Tryz.ntmps90
  go_wp2_with fail
  go_loopw [5] (fun v5 wr => ∃ i : Nat, i ≤ a.length ∧ v5 = .int .i64 i ∧ Hid (i + sharedS (a.drop i) (b.drop i) = res) ∧ Below w.heap.size w wr) (fun v5 _ => a.length - (intOf v5).toNat)
  case atStart => exact ⟨0, by omega, rfl, H0, Below.refl _ _⟩
  case round =>
    clear H0
    obtain ⟨i, hi, rfl, HA, hbel⟩ := hrel
    have HB := Lib.hid hbel
    clear hbel
    have i0 : (0 : Int) ≤ (i : Int) := by omega
    by_cases h1 : i < a.length
    · have j1 : (i : Int) < (a.length : Int) := by omega
      by_cases h2 : i < b.length
      · have j2 : (i : Int) < (b.length : Int) := by omega
        have HT := Lib.hid (sharedS_at a b i h1 h2)
        by_cases hc : a[i] = b[i]
        · have q : (((((⟨a.toArray⟩ : ByteArray)[i]'h1).toNat : Nat) : Int) == ((((⟨b.toArray⟩ : ByteArray)[i]'h2).toNat : Nat) : Int)) = true := by
            have e : (⟨a.toArray⟩ : ByteArray)[i]'h1 = (⟨b.toArray⟩ : ByteArray)[i]'h2 := hc
            rw [e]; simp
          have HN := Lib.hid (show i + 1 + sharedS (a.drop (i + 1)) (b.drop (i + 1)) = res by rw [← HA.out, HT.out, if_pos hc]; omega)
          clear HA HT hc
          go_wp2_with fail
          go_quiet (fail)
          go_wp2_with fail
          go_roundw
          case rel => exact ⟨i + 1, by omega, by go_num, HN, Below_drewN HB.out nq⟩
          case measure => simp [intOf]; omega
        · have q : (((((⟨a.toArray⟩ : ByteArray)[i]'h1).toNat : Nat) : Int) == ((((⟨b.toArray⟩ : ByteArray)[i]'h2).toNat : Nat) : Int)) = false := by
            rw [beq_eq_false_iff_ne]
            exact fun e => hc (UInt8.toNat_inj.1 (Int.ofNat_inj.1 e))
          have HN := Lib.hid (show i = res by rw [← HA.out, HT.out, if_neg hc]; omega)
          clear HA HT hc
          go_wp2_with fail
          go_quiet (fail)
          go_wp2_with fail
          go_ret
          exact ⟨by rw [← HN.out]; rfl, Below_drewN HB.out nq⟩
      · have j2 : ¬ (i : Int) < (b.length : Int) := by omega
        have HN := Lib.hid (show i = res by rw [← HA.out, sharedS_end _ _ _ (fun h => h2 h.2)]; omega)
        clear HA
        go_wp2_with fail
        go_quiet (fail)
        go_wp2_with fail
        go_ret
        exact ⟨by rw [← HN.out]; rfl, Below_drewN HB.out nq⟩
    · have j1 : ¬ (i : Int) < (a.length : Int) := by omega
      have HN := Lib.hid (show i = res by rw [← HA.out, sharedS_end _ _ _ (fun h => h1 h.1)]; omega)
      clear HA
      go_wp2_with fail
      go_quiet (fail)
      go_wp2_with fail
      go_ret
      exact ⟨by rw [← HN.out]; rfl, Below_drewN HB.out nq⟩
end Go.Proofs.YtamiacmnobklaaaGreatDoor
