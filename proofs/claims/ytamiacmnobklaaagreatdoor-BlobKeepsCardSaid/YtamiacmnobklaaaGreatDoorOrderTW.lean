/- Landed tree: rank, Order, Within, walked. -/
import Derived.Test.YtamiacmnobklaaaGreatDoorFrame
import Derived.Test.YtamiacmnobklaaaGreatDoorGen
import Derived.Test.YtamiacmnobklaaaGreatDoorMarkMath
import Derived.Test.YtamiacmnobklaaaGreatDoorOwnL
import Derived.Test.YtamiacmnobklaaaGreatDoorProg
import Derived.Test.YtamiacmnobklaaaGreatDoorCdX
import Derived.Test.YtamiacmnobklaaaGreatDoorRowN
import Derived.Test.YtamiacmnobklaaaGreatDoorRows
import Derived.Test.YtamiacmnobklaaaGreatDoorShelf
import Derived.Test.YtamiacmnobklaaaGreatDoorTreeMath
import Derived.BigQuiet
import Derived.BigRegion
import Derived.Deep.Cut
import Derived.Deep.CutRange
import Derived.Deep.DeepCutAuto
import Derived.Deep.QuietTactic
import Derived.Lib.Hide
import Derived.WalkKit
import Derived.WalkLawsBesides
import Derived.WalkSpells
set_option linter.unusedVariables false
namespace Go.Proofs.YtamiacmnobklaaaGreatDoor
open Go.RowKit

theorem rank_any (c : UInt8) (w : World) : Calls Tryz.prog 153 #[.int .u8 c.toNat] w fun e w' => e = .returned (.int .i64 (kb c - 1)) ∧ w' = w := by
  have hc := c.toNat_lt
  by_cases h : c = 47
  · subst h
    go_enter Tryz.func153, Tryz.ntmps153
    go_wp2
    go_ret
    exact ⟨rfl, rfl⟩
  · have hn : ¬ c.toNat = 47 := fun e => h (UInt8.toNat_inj.1 e)
    have HK := Lib.hid (show kb c - 1 = (c.toNat : Int) by unfold kb; rw [if_neg h]; omega)
    have q : ((c.toNat : Int) == 47) = false := by rw [beq_eq_false_iff_ne]; omega
    rw [HK.out]
    clear HK h
    generalize c.toNat = n at *
    have q2 : ((n : Int) == (((⟨#[47]⟩ : ByteArray)[0]'(by decide)).toNat : Int)) = false := q
    go_enter Tryz.func153, Tryz.ntmps153
    go_wp2
    go_ret
    exact ⟨rfl, rfl⟩
theorem cmp_kb (x y : UInt8) (h : x ≠ y) (s t : Txt) : Lib.compareInt (kb x - 1) (kb y - 1) = ordS (x :: s) (y :: t) := by
  have hk : kb x ≠ kb y := fun e => h (kb_inj e)
  unfold Lib.compareInt ordS
  by_cases h1 : kb x < kb y
  · rw [if_pos h1]; grind
  · rw [if_neg h1, if_pos (show kb y < kb x by omega)]; grind
theorem cmp_len (a b : Txt) (k : Nat) (ha : k ≤ a.length) (hb : k ≤ b.length) (h : k = a.length ∨ k = b.length) : Lib.compareInt (a.length : Int) (b.length : Int) = ordS (a.drop k) (b.drop k) := by
  unfold Lib.compareInt
  rcases Nat.lt_trichotomy a.length b.length with c | c | c
  · obtain rfl : k = a.length := by omega
    rw [List.drop_eq_nil_of_le (Nat.le_refl _), List.drop_eq_getElem_cons (show a.length < b.length from c)]
    show _ = (-1 : Int)
    grind
  · rw [List.drop_eq_nil_of_le (by omega), List.drop_eq_nil_of_le (by omega)]
    show _ = (0 : Int)
    grind
  · obtain rfl : k = b.length := by omega
    rw [List.drop_eq_nil_of_le (Nat.le_refl b.length), List.drop_eq_getElem_cons (show b.length < a.length from c)]
    show _ = (1 : Int)
    grind
set_option maxRecDepth 100000 in
set_option maxHeartbeats 1000000 in
theorem order_any (a b : Txt) (w : World) (ha : a.length ≤ 140737488351232) (hb : b.length ≤ 140737488351232) :
    Calls Tryz.prog 129 #[.string ⟨a.toArray⟩, .string ⟨b.toArray⟩] w fun e w' => e = .returned (.int .i64 (ordS a b)) ∧ Below w.heap.size w w' := by
  have SA := Lib.hid (show (⟨a.toArray⟩ : ByteArray).size = a.length from rfl)
  have SB := Lib.hid (show (⟨b.toArray⟩ : ByteArray).size = b.length from rfl)
  obtain ⟨m, hm⟩ : ∃ m, m = min a.length b.length := ⟨_, rfl⟩
  have E1 : min (a.length : Int) (b.length : Int) = (m : Int) := by omega
  have hma : m ≤ a.length := by omega
  have hmb : m ≤ b.length := by omega
  have HM := Lib.hid (show m = a.length ∨ m = b.length by omega)
  clear hm
  have H0 := Lib.hid (show ordS (a.drop 0) (b.drop 0) = ordS a b from rfl)
  have CL := Lib.hid (fun k (h1 : k ≤ a.length) (h2 : k ≤ b.length) (h : k = a.length ∨ k = b.length) => cmp_len a b k h1 h2 h)
  have CC := fun (x y : Int) (w' : World) => Lib.hid (Tryz.cmp_Compare_int x y w')
  generalize ordS a b = res at *
  go_enter Tryz.func129, Tryz.ntmps129
  go_wp2_with fail
  go_loopw [5, 11] (fun v5 v11 wr => ∃ i : Nat, i ≤ m ∧ v11 = .int .i64 i ∧ Hid (ordS (a.drop i) (b.drop i) = res) ∧ Below w.heap.size w wr) (fun v5 v11 _ => m - (intOf v11).toNat)
  case atStart => exact ⟨0, by omega, rfl, H0, Below.refl _ _⟩
  case round =>
    clear H0
    obtain ⟨i, hi, rfl, HA, hbel⟩ := hrel
    have HB := Lib.hid hbel
    clear hbel
    have i0 : (0 : Int) ≤ (i : Int) := by omega
    by_cases hlt : i < m
    · have j1 : (i : Int) < (m : Int) := by omega
      have ja : i < a.length := by omega
      have jb : i < b.length := by omega
      have ka : (i : Int) < (a.length : Int) := by omega
      have kb' : (i : Int) < (b.length : Int) := by omega
      have e1 : (⟨a.toArray⟩ : ByteArray)[i]'ja = a[i] := rfl
      have e2 : (⟨b.toArray⟩ : ByteArray)[i]'jb = b[i] := rfl
      by_cases hne : a[i] = b[i]
      · have q : ((((⟨a.toArray⟩ : ByteArray)[i]'ja).toNat : Int) != (((⟨b.toArray⟩ : ByteArray)[i]'jb).toNat : Int)) = false := by rw [e1, e2, hne]; simp
        have HT := Lib.hid (show ordS (a.drop (i + 1)) (b.drop (i + 1)) = res by
          rw [← HA.out, List.drop_eq_getElem_cons ja, List.drop_eq_getElem_cons jb, hne]
          show _ = (if kb b[i] < kb b[i] then _ else if kb b[i] < kb b[i] then _ else _)
          rw [if_neg (by omega), if_neg (by omega)])
        clear hne e1 e2
        go_wp2_with fail
        go_quiet (fail)
        have HBQ := Lib.hid (HB.out.trans ((Below_drewN (Below.refl wr.heap.size wr) nq).mono HB.out.size))
        generalize wr.drewN nq = w3 at *
        go_wp2_with fail
        go_roundw
        case rel => exact ⟨i + 1, by omega, by go_num, HT, HBQ.out⟩
        case measure => simp [intOf]; omega
      · have q : ((((⟨a.toArray⟩ : ByteArray)[i]'ja).toNat : Int) != (((⟨b.toArray⟩ : ByteArray)[i]'jb).toNat : Int)) = true := by
          rw [e1, e2, bne_iff_ne]
          intro h
          exact hne (UInt8.toNat_inj.1 (by omega))
        have RA := fun w' => Lib.hid (rank_any ((⟨a.toArray⟩ : ByteArray)[i]'ja) w')
        have RB := fun w' => Lib.hid (rank_any ((⟨b.toArray⟩ : ByteArray)[i]'jb) w')
        have HR := Lib.hid (show Lib.compareInt (kb ((⟨a.toArray⟩ : ByteArray)[i]'ja) - 1) (kb ((⟨b.toArray⟩ : ByteArray)[i]'jb) - 1) = res by
          rw [e1, e2, cmp_kb _ _ hne (a.drop (i + 1)) (b.drop (i + 1)), ← HA.out, List.drop_eq_getElem_cons ja, List.drop_eq_getElem_cons jb])
        clear hne e1 e2
        generalize kb ((⟨a.toArray⟩ : ByteArray)[i]'ja) - 1 = x at *
        generalize kb ((⟨b.toArray⟩ : ByteArray)[i]'jb) - 1 = y at *
        have CI := fun w' => Lib.hid (CC x y w').out
        rw [HR.out] at CI
        go_wp2_with fail
        go_quiet (fail)
        have HBQ := Lib.hid (HB.out.trans ((Below_drewN (Below.refl wr.heap.size wr) nq).mono HB.out.size))
        generalize wr.drewN nq = w3 at *
        go_wp2_with fail
        go_quiet (first
          | (go_at_call 153; exact Calls.quiet_of_same (RA _).out)
          | (go_at_call 153; exact Calls.quiet_of_same (RB _).out)
          | (go_at_call 152; exact Calls.quiet_of_same (CI _).out))
        have HBQ2 := Lib.hid (HBQ.out.trans ((Below_drewN (Below.refl w3.heap.size w3) nq).mono HBQ.out.size))
        generalize w3.drewN nq = w4 at *
        go_wp2_with fail
        go_ret
        exact ⟨rfl, HBQ2.out⟩
    · obtain rfl : i = m := by omega
      have j1 : ¬ (i : Int) < (i : Int) := by omega
      have CI := fun w' => Lib.hid (CC (a.length : Int) (b.length : Int) w').out
      rw [CL.out i hma hmb HM.out, HA.out] at CI
      go_wp2_with fail
      refine (CI _).out.mono ?_
      rintro e w1 ⟨rfl, rfl⟩
      go_wp2_with fail
      go_ret
      exact ⟨rfl, HB.out⟩
theorem pfx_within (s p : Txt) : (Lib.hasPrefix s p && Lib.hasPrefix (Lib.trimPrefix s p) [47]) = withinS s p := by
  unfold withinS Lib.trimPrefix Lib.hasPrefix
  by_cases h : p.isPrefixOf s = true
  · rw [if_pos h, h, Bool.true_and]
    obtain ⟨t, rfl⟩ := List.isPrefixOf_iff_prefix.1 h
    rw [List.drop_left]
    cases t with
    | nil => simp
    | cons c t =>
      have e : (p ++ c :: t).take (p.length + 1) = p ++ [c] := by
        rw [List.take_append, List.take_of_length_le (by omega), show p.length + 1 - p.length = 1 by omega]; rfl
      have e2 : ([47] : List UInt8).isPrefixOf (c :: t) = (c == 47) := by
        by_cases hc : c = 47
        · subst hc; rfl
        · have h2 : ¬ (47 : UInt8) = c := fun e => hc e.symm
          rw [show ([47] : List UInt8).isPrefixOf (c :: t) = ((47 == c) && true) from rfl, beq_eq_false_iff_ne.2 h2, beq_eq_false_iff_ne.2 hc]; rfl
      have e3 : (p ++ [c] == p ++ [47]) = (c == 47) := by
        by_cases hc : c = 47
        · simp [hc]
        · simp
      rw [e, decide_eq_true (by simp), Bool.true_and, e2, e3]
  · rw [Bool.not_eq_true] at h
    rw [h, Bool.false_and]
    symm
    rw [Bool.and_eq_false_iff]
    by_cases hl : p.length < s.length
    · right
      rw [beq_eq_false_iff_ne]
      intro e
      rw [← Bool.not_eq_true] at h
      apply h
      rw [List.isPrefixOf_iff_prefix]
      have h3 : p <+: s.take (p.length + 1) := by rw [e]; exact ⟨[47], rfl⟩
      exact h3.trans (List.take_prefix _ _)
    · left; exact decide_eq_false hl
set_option maxRecDepth 100000 in
theorem within_any (s p : Txt) (w : World) (hs : s.length ≤ 140737488351232) (hp : p.length ≤ 140737488351232) :
    Calls Tryz.prog 130 #[.string ⟨s.toArray⟩, .string ⟨p.toArray⟩] w fun e w' => e = .returned (.bool (withinS s p)) ∧ w' = w := by
  have CP := Lib.hid (Tryz.strings_CutPrefix ⟨s.toArray⟩ ⟨p.toArray⟩ w)
  have HP := Lib.hid (Tryz.strings_HasPrefix ⟨(Lib.trimPrefix s p).toArray⟩ ⟨#[47]⟩ w)
  have HW := Lib.hid (pfx_within s p)
  change Hid (Calls _ _ _ _ (fun e w' => e = .returned (.tuple #[.string ⟨(Lib.trimPrefix s p).toArray⟩, .bool (Lib.hasPrefix s p)]) ∧ w' = w)) at CP
  change Hid (Calls _ _ _ _ (fun e w' => e = .returned (.bool (Lib.hasPrefix (Lib.trimPrefix s p) [47])) ∧ w' = w)) at HP
  generalize Lib.trimPrefix s p = t at *
  generalize Lib.hasPrefix t [47] = b2 at *
  generalize Lib.hasPrefix s p = b1 at *
  generalize withinS s p = res at *
  go_enter Tryz.func130, Tryz.ntmps130
  go_wp2_with fail
  refine CP.out.mono ?_
  rintro e w1 ⟨rfl, rfl⟩
  cases b1 with
  | true =>
    go_wp2_with fail
    refine HP.out.mono ?_
    rintro e w2 ⟨rfl, rfl⟩
    go_wp2_with fail
    go_ret
    exact ⟨by rw [← HW.out]; rfl, rfl⟩
  | false =>
    go_wp2_with fail
    go_ret
    exact ⟨by rw [← HW.out]; rfl, rfl⟩
end Go.Proofs.YtamiacmnobklaaaGreatDoor
