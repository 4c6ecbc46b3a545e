/- Several texts in one: RefNamesW, RefOrdW, RefTogW, RefCheckW, RefRightTW, RefSortW. -/
import Derived.Test.YtamiacmnobklaaaGreatDoorFrame
import Derived.Test.YtamiacmnobklaaaGreatDoorGen
import Derived.Test.YtamiacmnobklaaaGreatDoorInfos
import Derived.Test.YtamiacmnobklaaaGreatDoorMarkMath
import Derived.Test.YtamiacmnobklaaaGreatDoorOwnL
import Derived.Test.YtamiacmnobklaaaGreatDoorCdX
import Derived.Test.YtamiacmnobklaaaGreatDoorRowN
import Derived.Test.YtamiacmnobklaaaGreatDoorRows
import Derived.Test.YtamiacmnobklaaaGreatDoorTreeMath
import Derived.BigQuiet
import Derived.Deep.QuietTactic
import Derived.Lib.Hide
import Derived.WalkKit
import Derived.WalkLawsBesides
import Derived.WalkSpells
import Derived.Deep.Cut
import Derived.Deep.CutRange
import Derived.Deep.DeepCutAuto
import Derived.OpenShut
import Derived.ProofKit
import Derived.ShutString
import Derived.SizedLaws
import Derived.SliceStrings
import Derived.Test.YtamiacmnobklaaaGreatDoorQuietLaw
import Derived.Test.YtamiacmnobklaaaGreatDoorArX
import Derived.Deep.Slices
import Derived.Deep.Strs
import Derived.Lib.SmallJoins
/- The document's Names, name, Path. -/
set_option linter.unusedVariables false
namespace Go.Proofs.YtamiacmnobklaaaGreatDoor
open Go.RowKit

def strE (l : Txt) : Value := .string ⟨l.toArray⟩
set_option maxRecDepth 100000 in
set_option maxHeartbeats 1000000 in
theorem refNames_any (s : Txt) (w : World) (hs : s.length ≤ 100000) :
    Calls Tryz.prog 105 #[.string ⟨s.toArray⟩] w fun e w' => ∃ v, e = .returned v ∧ OwnL strE w' w.heap.size 9 v (namesS s) ∧ Below w.heap.size w w' := by
  have SL := Lib.hid (show (⟨s.toArray⟩ : ByteArray).size = s.length from rfl)
  have H0 := Lib.hid (show namesG ((s.take 0).drop 0) (s.drop 0) = namesS s from rfl)
  have HNL := Lib.hid (namesG_len s [])
  have HNS := Lib.hid (show namesS s = namesG [] s from rfl)
  rw [← HNS.out] at HNL
  generalize namesS s = res at *
  clear HNS
  go_enter Tryz.func105, Tryz.ntmps105
  go_wp2_with fail
  go_loopw [3, 4, 5] (fun v3 v4 v5 wr => ∃ (i f : Nat) (out : List Txt), i ≤ s.length + 1 ∧ v5 = .int .i64 i ∧ v4 = .int .i64 f ∧ OwnL strE wr w.heap.size 9 v3 out ∧ Hid (i ≤ s.length → f ≤ i ∧ out ++ namesG ((s.take i).drop f) (s.drop i) = res) ∧ Hid (s.length < i → out = res) ∧ Below w.heap.size w wr) (fun _ _ v5 _ => s.length + 1 - (intOf v5).toNat)
  case atStart => exact ⟨0, 0, [], by omega, rfl, rfl, OwnL.nil _ _ _ _, Lib.hid (fun _ => ⟨by omega, H0.out⟩), Lib.hid (fun h => by omega), Below.refl _ _⟩
  case round =>
    clear H0
    obtain ⟨i, f, out, hi, rfl, rfl, hown, HA, HZ, hbel⟩ := hrel
    have HO := Lib.hid hown
    have HB := Lib.hid hbel
    clear hown hbel
    obtain ⟨va, vm, vc, hv⟩ := own_slice HO.out
    subst hv
    have hvm : vm = out.length := own_lenV HO.out
    subst hvm
    have i0 : (0 : Int) ≤ (i : Int) := by omega
    have f0 : (0 : Int) ≤ (f : Int) := by omega
    by_cases hle : i ≤ s.length
    · obtain ⟨hf, hA⟩ := HA.out hle
      have HL := Lib.hid hA
      have j1 : (i : Int) ≤ (s.length : Int) := by omega
      have j2 : (f : Int) ≤ (i : Int) := by omega
      have hol : out.length ≤ 100001 := by
        have h1 := congrArg List.length HL.out
        have h2 := HNL.out
        rw [List.length_append] at h1
        omega
      have EX := Lib.hid (show (⟨s.toArray⟩ : ByteArray).extract f i = ⟨((s.take i).drop f).toArray⟩ from slice_toArray s f i)
      have key : ∀ (hcut : ((i : Int) == (s.length : Int)) = true ∨ (((i : Int) == (s.length : Int)) = false ∧ ∃ h : i < s.length, s[i] = 47)),
          (i = s.length → out ++ [(s.take i).drop f] = res) ∧ (∀ h : i < s.length, s[i] = 47 → out ++ [(s.take i).drop f] ++ namesG ((s.take (i + 1)).drop (i + 1)) (s.drop (i + 1)) = res) := by
        intro _
        constructor
        · intro e
          rw [← HL.out, List.drop_eq_nil_of_le (i := i) (by omega)]
          rfl
        · intro h hc
          rw [← HL.out, List.drop_eq_getElem_cons h, hc, List.append_assoc]
          have e1 : (s.take (i + 1)).drop (i + 1) = [] := List.drop_eq_nil_of_le (by rw [List.length_take]; omega)
          rw [e1]
          show _ = out ++ (if (47 : UInt8) = 47 then (s.take i).drop f :: namesG [] (s.drop (i + 1)) else _)
          rw [if_pos rfl]
          rfl
      by_cases hcase : i = s.length ∨ ∃ h : i < s.length, s[i] = 47
      · have K1 := Lib.hid (fun (e : i = s.length) => (key (.inl (by simp [e]))).1 e)
        have K2 := Lib.hid (fun (h : i < s.length) (hc : s[i] = 47) => (key (.inr ⟨by simp; omega, h, hc⟩)).2 h hc)
        have hq : ((i : Int) == (s.length : Int)) = true ∨ (((i : Int) == (s.length : Int)) = false ∧ ∃ h : i < s.length, (((((⟨s.toArray⟩ : ByteArray)[i]'h).toNat : Nat) : Int) == 47) = true) := by
          rcases hcase with h | ⟨h, hc⟩
          · left; simp [h]
          · right
            refine ⟨by simp; omega, h, ?_⟩
            have e : (⟨s.toArray⟩ : ByteArray)[i]'h = s[i] := rfl
            rw [e, hc]; rfl
        have HCA := Lib.hid hcase
        clear key hcase HA HZ HL hA
        generalize (s.take i).drop f = cur at *
        rcases hq with q1 | ⟨q1, hlt, q2⟩
        all_goals
          go_wp2_with (at_builtin; rw [EX.out]; refine append_elem (enc := strE) (w := wr) (by rfl) (.tmp 22) (.tmp 27) 54 9 (.string ByteArray.empty) 16 (by rfl) Tryz.underlying54 info_str (by rfl) w.heap.size _ out cur (by rfl) (by rfl) HO.out (by rfl) (by omega) (by unfold maxLen; omega) HB.out.size ?_; intro v' w7 hown7 hb7 _; have HO7 := Lib.hid hown7; have HB7 := Lib.hid (HB.out.trans hb7); clear hown7 hb7)
          go_roundw
          case rel =>
            refine ⟨i + 1, i + 1, out ++ [cur], by omega, by go_num, by go_num, HO7.out, Lib.hid (fun h => ⟨Nat.le_refl _, ?_⟩), Lib.hid (fun h => ?_), HB7.out⟩
            · rcases HCA.out with e | ⟨h2, hc⟩
              · omega
              · exact K2.out h2 hc
            · rcases HCA.out with e | ⟨h2, hc⟩
              · exact K1.out e
              · omega
          case measure => simp [intOf]; omega
      · have hlt : i < s.length := by
          by_cases h : i = s.length
          · exact absurd (.inl h) hcase
          · omega
        have hc : ¬ s[i] = 47 := fun h => hcase (.inr ⟨hlt, h⟩)
        have q1 : ((i : Int) == (s.length : Int)) = false := by simp; omega
        have q2 : (((((⟨s.toArray⟩ : ByteArray)[i]'hlt).toNat : Nat) : Int) == 47) = false := by
          have e : (⟨s.toArray⟩ : ByteArray)[i]'hlt = s[i] := rfl
          rw [e, beq_eq_false_iff_ne]
          intro h
          exact hc (UInt8.toNat_inj.1 (by show s[i].toNat = 47; omega))
        have HN := Lib.hid (show out ++ namesG ((s.take (i + 1)).drop f) (s.drop (i + 1)) = res by
          rw [← HL.out, List.drop_eq_getElem_cons hlt, List.take_succ_eq_append_getElem hlt, List.drop_append_of_le_length (by rw [List.length_take]; omega)]
          show _ = out ++ (if s[i] = 47 then _ else namesG ((s.take i).drop f ++ [s[i]]) (s.drop (i + 1)))
          rw [if_neg hc])
        clear key hcase HA HZ HL hA EX hc
        go_wp2_with fail
        go_roundw
        case rel => exact ⟨i + 1, f, out, by omega, by go_num, rfl, HO.out, Lib.hid (fun h => ⟨by omega, HN.out⟩), Lib.hid (fun h => by omega), HB.out⟩
        case measure => simp [intOf]; omega
    · have j1 : ¬ (i : Int) ≤ (s.length : Int) := by omega
      have HR := Lib.hid (HZ.out (by omega))
      clear HA HZ
      go_wp2_with fail
      go_ret
      exact ⟨_, rfl, by rw [← HR.out]; exact HO.out, HB.out⟩
theorem all_at (s : Txt) (i : Nat) (h : i < s.length) : (s.drop i).all okC = (okC s[i] && (s.drop (i + 1)).all okC) := by
  rw [List.drop_eq_getElem_cons h]; rfl
set_option maxRecDepth 100000 in
set_option maxHeartbeats 1000000 in
theorem refName_any (s : Txt) (w : World) (hs : s.length ≤ 140737488351232) :
    Calls Tryz.prog 106 #[.string ⟨s.toArray⟩] w fun e w' => e = .returned (.bool (nameS s)) ∧ w = w' := by
  have SL := Lib.hid (show (⟨s.toArray⟩ : ByteArray).size = s.length from rfl)
  by_cases h0 : s = []
  · subst h0
    go_enter Tryz.func106, Tryz.ntmps106
    go_wp2_with fail
    go_ret
    exact ⟨rfl, rfl⟩
  · have q0 : s.isEmpty = false := by cases s <;> simp_all
    have e0 : (s == []) = false := by cases s <;> simp_all
    by_cases h1 : s = [46]
    · have q1 : (s == [46]) = true := by rw [h1]; rfl
      have HR := Lib.hid (show nameS s = false by rw [h1]; rfl)
      clear h0 h1
      go_enter Tryz.func106, Tryz.ntmps106
      go_wp2_with fail
      go_ret
      exact ⟨by rw [HR.out]; rfl, rfl⟩
    · have q1 : (s == [46]) = false := by simp [h1]
      by_cases h2 : s = [46, 46]
      · have q2 : (s == [46, 46]) = true := by rw [h2]; rfl
        have HR := Lib.hid (show nameS s = false by rw [h2]; rfl)
        clear h0 h1 h2
        go_enter Tryz.func106, Tryz.ntmps106
        go_wp2_with fail
        go_ret
        exact ⟨by rw [HR.out]; rfl, rfl⟩
      · have q2 : (s == [46, 46]) = false := by simp [h2]
        by_cases h3 : 32 < s.length
        · have j3 : (32 : Int) < (s.length : Int) := by omega
          have HR := Lib.hid (show nameS s = false by unfold nameS; rw [decide_eq_false (show ¬ s.length ≤ 32 by omega)]; simp)
          clear h0 h1 h2 h3
          go_enter Tryz.func106, Tryz.ntmps106
          go_wp2_with fail
          go_ret
          exact ⟨by rw [HR.out]; rfl, rfl⟩
        · have j3 : ¬ (32 : Int) < (s.length : Int) := by omega
          have HA := Lib.hid (show (s.drop 0).all okC = nameS s by
            unfold nameS
            rw [e0, q1, q2, decide_eq_true (show s.length ≤ 32 by omega)]; simp)
          have hs32 : s.length ≤ 32 := by omega
          generalize nameS s = res at *
          clear h0 h1 h2 h3 e0
          go_enter Tryz.func106, Tryz.ntmps106
          go_wp2_with fail
          go_loopw [3] (fun v3 wr => ∃ i : Nat, i ≤ s.length ∧ v3 = .int .i64 i ∧ Hid ((s.drop i).all okC = res) ∧ w = wr) (fun v3 _ => s.length - (intOf v3).toNat)
          case atStart => exact ⟨0, by omega, rfl, HA, rfl⟩
          case round =>
            clear HA
            obtain ⟨i, hi, rfl, HA, rfl⟩ := hrel
            have i0 : (0 : Int) ≤ (i : Int) := by omega
            by_cases hlt : i < s.length
            · have j1 : (i : Int) < (s.length : Int) := by omega
              have HT := Lib.hid (all_at s i hlt)
              have e : (⟨s.toArray⟩ : ByteArray)[i]'hlt = s[i] := rfl
              by_cases c1 : s[i].toNat < 33
              · have k1 : ((((⟨s.toArray⟩ : ByteArray)[i]'hlt).toNat : Nat) : Int) < 33 := by rw [e]; omega
                have HR := Lib.hid (show false = res by rw [← HA.out, HT.out]; unfold okC; rw [decide_eq_false (show ¬ 33 ≤ s[i].toNat by omega)]; simp)
                clear HA HT e c1
                go_wp2_with fail
                go_ret
                exact ⟨by rw [← HR.out]; rfl, rfl⟩
              · have k1 : ¬ ((((⟨s.toArray⟩ : ByteArray)[i]'hlt).toNat : Nat) : Int) < 33 := by rw [e]; omega
                by_cases c2 : 126 < s[i].toNat
                · have k2 : (126 : Int) < ((((⟨s.toArray⟩ : ByteArray)[i]'hlt).toNat : Nat) : Int) := by rw [e]; omega
                  have HR := Lib.hid (show false = res by rw [← HA.out, HT.out]; unfold okC; rw [decide_eq_false (show ¬ s[i].toNat ≤ 126 by omega)]; simp)
                  clear HA HT e c1 c2
                  go_wp2_with fail
                  go_ret
                  exact ⟨by rw [← HR.out]; rfl, rfl⟩
                · have k2 : ¬ (126 : Int) < ((((⟨s.toArray⟩ : ByteArray)[i]'hlt).toNat : Nat) : Int) := by rw [e]; omega
                  have HN := Lib.hid (show (s.drop (i + 1)).all okC = res by rw [← HA.out, HT.out]; unfold okC; rw [decide_eq_true (show 33 ≤ s[i].toNat by omega), decide_eq_true (show s[i].toNat ≤ 126 by omega)]; simp)
                  clear HA HT e c1 c2
                  go_wp2_with fail
                  go_roundw
                  case rel => exact ⟨i + 1, by omega, by go_num, HN, trivial⟩
                  case measure => simp [intOf]; omega
            · have j1 : ¬ (i : Int) < (s.length : Int) := by omega
              have HR := Lib.hid (show true = res by rw [← HA.out, List.drop_eq_nil_of_le (by omega)]; rfl)
              clear HA
              go_wp2_with fail
              go_ret
              exact ⟨by rw [← HR.out]; rfl, rfl⟩
theorem alln_at (l : List Txt) (i : Nat) (h : i < l.length) : (l.drop i).all nameS = (nameS l[i] && (l.drop (i + 1)).all nameS) := by
  rw [List.drop_eq_getElem_cons h]; rfl
theorem namesG_le : ∀ (t cur : Txt), ∀ x ∈ namesG cur t, x.length ≤ cur.length + t.length
  | [], cur, x, hx => by simp [namesG] at hx; subst hx; simp
  | c :: t, cur, x, hx => by
    unfold namesG at hx
    split at hx
    · simp at hx
      rcases hx with rfl | hx
      · omega
      · have := namesG_le t [] x hx; simp at *; omega
    · have := namesG_le t (cur ++ [c]) x hx; simp at *; omega
set_option maxRecDepth 100000 in
set_option maxHeartbeats 1000000 in
theorem refPath_any (s : Txt) (w : World) (hs : s.length ≤ 140737488351232) :
    Calls Tryz.prog 71 #[.string ⟨s.toArray⟩] w fun e w' => e = .returned (.int .i64 (pathS s)) ∧ Below w.heap.size w w' := by
  have SL := Lib.hid (show (⟨s.toArray⟩ : ByteArray).size = s.length from rfl)
  by_cases h : 200 < s.length
  · have j : (200 : Int) < (s.length : Int) := by omega
    have HR := Lib.hid (show pathS s = 4 from if_pos h)
    clear h
    go_enter Tryz.func71, Tryz.ntmps71
    go_wp2_with fail
    go_ret
    exact ⟨by rw [HR.out]; rfl, Below.refl _ _⟩
  · have j : ¬ (200 : Int) < (s.length : Int) := by omega
    have NM := Lib.hid (refNames_any s w (by omega))
    have HR := Lib.hid (show (if ((namesS s).drop 0).all nameS then 0 else 10) = pathS s from (if_neg h).symm)
    have HNL := Lib.hid (namesG_len s [])
    have HNX := Lib.hid (namesG_le s [])
    have HNS := Lib.hid (show namesS s = namesG [] s from rfl)
    rw [← HNS.out] at HNL HNX
    generalize namesS s = nl at *
    generalize pathS s = res at *
    have hsl : s.length ≤ 200 := by omega
    clear h HNS
    go_enter Tryz.func71, Tryz.ntmps71
    go_wp2_with fail
    refine NM.out.mono ?_
    rintro e w1 ⟨v1, rfl, hown, hb1⟩
    have HO := Lib.hid hown
    have HB := Lib.hid hb1
    clear hown hb1 NM
    obtain ⟨va, vm, vc, hv⟩ := own_slice HO.out
    subst hv
    have hvm : vm = nl.length := own_lenV HO.out
    subst hvm
    go_wp2_with fail
    go_loopw [4] (fun v4 wr => ∃ i : Nat, i ≤ nl.length ∧ v4 = .int .i64 i ∧ Hid ((if (nl.drop i).all nameS then (0 : Int) else 10) = res) ∧ w1 = wr) (fun v4 _ => nl.length - (intOf v4).toNat)
    case atStart => exact ⟨0, by omega, rfl, HR, rfl⟩
    case round =>
      clear HR
      obtain ⟨i, hi, rfl, HR, rfl⟩ := hrel
      have i0 : (0 : Int) ≤ (i : Int) := by omega
      have hnl := HNL.out
      have nlb : nl.length ≤ 201 := by omega
      by_cases hlt : i < nl.length
      · have j1 : (i : Int) < (nl.length : Int) := by omega
        have HT := Lib.hid (alln_at nl i hlt)
        obtain ⟨g, o, rfl, _, hcell⟩ : ∃ g o, va = some ⟨g, o, none⟩ ∧ w.heap.size ≤ g ∧ w1.cell? ⟨g, o + i, none⟩ = some (strE nl[i]) := by
          obtain ⟨a, cap, hv, hc⟩ := OwnL.row HO.out
          injection hv with e1 e2 e3
          obtain ⟨b, off, e4, hb, hcell⟩ := hc i hlt
          exact ⟨b, off, e1.trans e4, hb, hcell⟩
        have hxl := HNX.out nl[i] (List.getElem_mem hlt)
        generalize nl[i] = x at *
        unfold strE at hcell
        have NA := Lib.hid (refName_any x w1 (by simp at hxl; omega))
        by_cases hx : nameS x = true
        · rw [hx] at NA
          have HN := Lib.hid (show (if (nl.drop (i + 1)).all nameS then (0 : Int) else 10) = res by rw [← HR.out, HT.out, hx, Bool.true_and])
          clear HR HT hxl hnl hx
          go_wp2_with fail
          refine NA.out.mono ?_
          rintro e w2 ⟨rfl, rfl⟩
          go_wp2_with fail
          go_roundw
          case rel => exact ⟨i + 1, by omega, by go_num, HN, trivial⟩
          case measure => simp [intOf]; omega
        · have hx' : nameS x = false := by simpa using hx
          rw [hx'] at NA
          have HN := Lib.hid (show 10 = res by rw [← HR.out, HT.out, hx', Bool.false_and]; rfl)
          clear HR HT hxl hnl hx hx'
          go_wp2_with fail
          refine NA.out.mono ?_
          rintro e w2 ⟨rfl, rfl⟩
          go_wp2_with fail
          go_ret
          exact ⟨by rw [← HN.out]; rfl, HB.out⟩
      · have j1 : ¬ (i : Int) < (nl.length : Int) := by omega
        have HN := Lib.hid (show 0 = res by rw [← HR.out, List.drop_eq_nil_of_le (by omega)]; rfl)
        clear HR hnl
        go_wp2_with fail
        go_ret
        exact ⟨by rw [← HN.out]; rfl, HB.out⟩
end Go.Proofs.YtamiacmnobklaaaGreatDoor
/- The document's Order, Within, shared. -/
set_option linter.unusedVariables false
namespace Go.Proofs.YtamiacmnobklaaaGreatDoor
open Go.RowKit

theorem kbAt_end {a : Txt} {i : Nat} (h : ¬ i < a.length) : kbAt a i = -1 := by unfold kbAt; rw [List.getElem?_eq_none (by omega)]
theorem kbAt_in {a : Txt} {i : Nat} (h : i < a.length) : kbAt a i = kb a[i] := by unfold kbAt; rw [List.getElem?_eq_getElem h]
set_option maxRecDepth 100000 in
set_option maxHeartbeats 1000000 in
theorem refOrder_any (a b : Txt) (w : World) (ha : a.length ≤ 140737488351232) (hb : b.length ≤ 140737488351232) :
    Calls Tryz.prog 72 #[.string ⟨a.toArray⟩, .string ⟨b.toArray⟩] w fun e w' => e = .returned (.int .i64 (ordS a b)) ∧ w = w' := by
  have SA := Lib.hid (show (⟨a.toArray⟩ : ByteArray).size = a.length from rfl)
  have SB := Lib.hid (show (⟨b.toArray⟩ : ByteArray).size = b.length from rfl)
  have H0 := Lib.hid (show ordS (a.drop 0) (b.drop 0) = ordS a b from rfl)
  generalize ordS a b = res at *
  go_enter Tryz.func72, Tryz.ntmps72
  go_wp2_with fail
  go_loopw [5] (fun v5 wr => ∃ i : Nat, i ≤ a.length + b.length ∧ v5 = .int .i64 i ∧ Hid (ordS (a.drop i) (b.drop i) = res) ∧ w = wr) (fun v5 _ => a.length + b.length - (intOf v5).toNat)
  case atStart => exact ⟨0, by omega, rfl, H0, rfl⟩
  case round =>
    clear H0
    obtain ⟨i, hi, rfl, HA, rfl⟩ := hrel
    have i0 : (0 : Int) ≤ (i : Int) := by omega
    by_cases hin : i < a.length ∨ i < b.length
    · have HT := Lib.hid (ordS_at a b i)
      have hcond : (i : Int) < (a.length : Int) ∨ (¬ (i : Int) < (a.length : Int) ∧ (i : Int) < (b.length : Int)) := by omega
      obtain ⟨ka, hka⟩ : ∃ ka, ka = kbAt a i := ⟨_, rfl⟩
      obtain ⟨kc, hkc⟩ : ∃ kc, kc = kbAt b i := ⟨_, rfl⟩
      have HKA := Lib.hid hka
      have HKC := Lib.hid hkc
      have HH := Lib.hid (show (if ka < kc then (-1 : Int) else if kc < ka then 1 else ordS (a.drop (i + 1)) (b.drop (i + 1))) = res by
        rw [← HA.out, HT.out, if_pos hin, ← hka, ← hkc])
      have HIN := Lib.hid hin
      clear HA HT hin hka hkc
      rcases hcond with c1 | ⟨c1, c2⟩
      all_goals
        go_upto_if 23 with fail
        go_cut [6] from 8 to 51 (fun v6 wx => v6 = .int .i64 ka ∧ w = wx)
        case first =>
          by_cases h : i < a.length
          · first
            | (exfalso; omega)
            | (have j1 : (i : Int) < (a.length : Int) := by omega
               have d1 : decide ((i : Int) < (a.length : Int)) = true := decide_eq_true j1
               have d2 : decide (i < a.length) = true := decide_eq_true h
               have e : (⟨a.toArray⟩ : ByteArray)[i]'h = a[i] := rfl
               by_cases hc : a[i] = 47
               · have q : (((((⟨a.toArray⟩ : ByteArray)[i]'h).toNat : Nat) : Int) == 47) = true := by rw [e, hc]; rfl
                 have HK := Lib.hid (show ka = 0 by rw [HKA.out, kbAt_in h, hc]; rfl)
                 clear hc e
                 go_wp2_with fail
                 go_meet
                 exact ⟨by rw [HK.out], rfl⟩
               · have q : (((((⟨a.toArray⟩ : ByteArray)[i]'h).toNat : Nat) : Int) == 47) = false := by
                   rw [e, beq_eq_false_iff_ne]
                   intro h2
                   exact hc (UInt8.toNat_inj.1 (by show a[i].toNat = 47; omega))
                 have HK := Lib.hid (show ka = ((((⟨a.toArray⟩ : ByteArray)[i]'h).toNat : Nat) : Int) + 1 by rw [HKA.out, kbAt_in h]; exact if_neg hc)
                 have hby := ((⟨a.toArray⟩ : ByteArray)[i]'h).toNat_lt
                 clear hc e
                 go_wp2_with fail
                 go_meet
                 exact ⟨by rw [HK.out], rfl⟩)
          · first
            | (exfalso; omega)
            | (have j1 : ¬ (i : Int) < (a.length : Int) := by omega
               have d1 : decide ((i : Int) < (a.length : Int)) = false := decide_eq_false j1
               have d2 : decide (i < a.length) = false := decide_eq_false h
               have HK := Lib.hid (show ka = -1 by rw [HKA.out, kbAt_end h])
               go_wp2_with fail
               go_meet
               exact ⟨by rw [HK.out], rfl⟩)
        case rest =>
          obtain ⟨rfl, rfl⟩ := hcut
          go_upto_if 36 with fail
          go_cut [7] from 8 to 51 (fun v7 wx => v7 = .int .i64 kc ∧ w = wx)
          case first =>
            by_cases h : i < b.length
            · first
              | (exfalso; omega)
              | (have j1 : (i : Int) < (b.length : Int) := by omega
                 have d1 : decide ((i : Int) < (b.length : Int)) = true := decide_eq_true j1
                 have d2 : decide (i < b.length) = true := decide_eq_true h
                 have e : (⟨b.toArray⟩ : ByteArray)[i]'h = b[i] := rfl
                 by_cases hc : b[i] = 47
                 · have q : (((((⟨b.toArray⟩ : ByteArray)[i]'h).toNat : Nat) : Int) == 47) = true := by rw [e, hc]; rfl
                   have HK := Lib.hid (show kc = 0 by rw [HKC.out, kbAt_in h, hc]; rfl)
                   clear hc e
                   go_wp2_with fail
                   go_meet
                   exact ⟨by rw [HK.out], rfl⟩
                 · have q : (((((⟨b.toArray⟩ : ByteArray)[i]'h).toNat : Nat) : Int) == 47) = false := by
                     rw [e, beq_eq_false_iff_ne]
                     intro h2
                     exact hc (UInt8.toNat_inj.1 (by show b[i].toNat = 47; omega))
                   have HK := Lib.hid (show kc = ((((⟨b.toArray⟩ : ByteArray)[i]'h).toNat : Nat) : Int) + 1 by rw [HKC.out, kbAt_in h]; exact if_neg hc)
                   have hby := ((⟨b.toArray⟩ : ByteArray)[i]'h).toNat_lt
                   clear hc e
                   go_wp2_with fail
                   go_meet
                   exact ⟨by rw [HK.out], rfl⟩)
            · first
              | (exfalso; omega)
              | (have j1 : ¬ (i : Int) < (b.length : Int) := by omega
                 have d1 : decide ((i : Int) < (b.length : Int)) = false := decide_eq_false j1
                 have d2 : decide (i < b.length) = false := decide_eq_false h
                 have HK := Lib.hid (show kc = -1 by rw [HKC.out, kbAt_end h])
                 go_wp2_with fail
                 go_meet
                 exact ⟨by rw [HK.out], rfl⟩)
          case rest =>
            obtain ⟨rfl, rfl⟩ := hcut
            by_cases h1 : ka < kc
            · have HR := Lib.hid (show -1 = res by rw [← HH.out, if_pos h1])
              go_wp2_with fail
              go_ret
              exact ⟨by rw [← HR.out]; rfl, rfl⟩
            · by_cases h2 : kc < ka
              · have HR := Lib.hid (show 1 = res by rw [← HH.out, if_neg h1, if_pos h2])
                go_wp2_with fail
                go_ret
                exact ⟨by rw [← HR.out]; rfl, rfl⟩
              · have HR := Lib.hid (show ordS (a.drop (i + 1)) (b.drop (i + 1)) = res by rw [← HH.out, if_neg h1, if_neg h2])
                go_wp2_with fail
                go_roundw
                case rel => exact ⟨i + 1, by have := HIN.out; omega, by go_num, HR, trivial⟩
                case measure => have := HIN.out; simp [intOf]; omega
    · have j1 : ¬ (i : Int) < (a.length : Int) := by omega
      have j2 : ¬ (i : Int) < (b.length : Int) := by omega
      have HR := Lib.hid (show 0 = res by rw [← HA.out, ordS_at, if_neg hin])
      clear HA hin
      go_wp2_with fail
      go_ret
      exact ⟨by rw [← HR.out]; rfl, rfl⟩
set_option maxRecDepth 100000 in
set_option maxHeartbeats 1000000 in
theorem refWithin_any (s i : Txt) (w : World) (hs : s.length ≤ 140737488351232) (hi : i.length ≤ 140737488351232) :
    Calls Tryz.prog 73 #[.string ⟨s.toArray⟩, .string ⟨i.toArray⟩] w fun e w' => e = .returned (.bool (withinS s i)) ∧ w = w' := by
  have SS := Lib.hid (show (⟨s.toArray⟩ : ByteArray).size = s.length from rfl)
  have SI := Lib.hid (show (⟨i.toArray⟩ : ByteArray).size = i.length from rfl)
  by_cases h : i.length < s.length
  · have j : (i.length : Int) < (s.length : Int) := by omega
    have j2 : (i.length : Int) + 1 ≤ (s.length : Int) := by omega
    have EX := show (⟨s.toArray⟩ : ByteArray).extract 0 (i.length + 1) = ⟨(s.take (i.length + 1)).toArray⟩ from take_toArray s (i.length + 1)
    have EA := show (⟨i.toArray⟩ : ByteArray) ++ ⟨#[47]⟩ = ⟨(i ++ [47]).toArray⟩ by apply ByteArray.ext; simp
    have k1 : ¬ 9223372036854775807 < i.length + 1 := by omega
    have HR := Lib.hid (show withinS s i = (s.take (i.length + 1) == i ++ [47]) by unfold withinS; rw [decide_eq_true h, Bool.true_and])
    generalize s.take (i.length + 1) = X at *
    generalize i ++ [47] = Y at *
    clear h
    go_enter Tryz.func73, Tryz.ntmps73
    go_wp2_with fail
    go_ret
    exact ⟨by rw [HR.out]; rfl, rfl⟩
  · have j : ¬ (i.length : Int) < (s.length : Int) := by omega
    have HR := Lib.hid (show withinS s i = false by unfold withinS; rw [decide_eq_false h, Bool.false_and])
    clear h
    go_enter Tryz.func73, Tryz.ntmps73
    go_wp2_with fail
    go_ret
    exact ⟨by rw [HR.out]; rfl, rfl⟩
theorem sharedS_at (a b : Txt) (i : Nat) (ha : i < a.length) (hb : i < b.length) : sharedS (a.drop i) (b.drop i) = if a[i] = b[i] then sharedS (a.drop (i + 1)) (b.drop (i + 1)) + 1 else 0 := by
  rw [List.drop_eq_getElem_cons ha, List.drop_eq_getElem_cons hb]; rfl
theorem sharedS_end (a b : Txt) (i : Nat) (h : ¬ (i < a.length ∧ i < b.length)) : sharedS (a.drop i) (b.drop i) = 0 := by
  by_cases ha : i < a.length
  · rw [show b.drop i = [] from List.drop_eq_nil_of_le (by omega), List.drop_eq_getElem_cons ha]; rfl
  · rw [show a.drop i = [] from List.drop_eq_nil_of_le (by omega)]; rfl
set_option maxRecDepth 100000 in
set_option maxHeartbeats 1000000 in
theorem refShared_any (a b : Txt) (w : World) (ha : a.length ≤ 140737488351232) (hb : b.length ≤ 140737488351232) :
    Calls Tryz.prog 90 #[.string ⟨a.toArray⟩, .string ⟨b.toArray⟩] w fun e w' => e = .returned (.int .i64 (sharedS a b : Nat)) ∧ Below w.heap.size w w' := by
  have SA := Lib.hid (show (⟨a.toArray⟩ : ByteArray).size = a.length from rfl)
  have SB := Lib.hid (show (⟨b.toArray⟩ : ByteArray).size = b.length from rfl)
  have H0 := Lib.hid (show 0 + sharedS (a.drop 0) (b.drop 0) = sharedS a b by rw [Nat.zero_add]; rfl)
  generalize sharedS a b = res at *
  go_enter Tryz.func90, Tryz.ntmps90
  go_wp2_with fail
  go_loopw [5] (fun v5 wr => ∃ i : Nat, i ≤ a.length ∧ v5 = .int .i64 i ∧ Hid (i + sharedS (a.drop i) (b.drop i) = res) ∧ Below w.heap.size w wr) (fun v5 _ => a.length - (intOf v5).toNat)
  case atStart => exact ⟨0, by omega, rfl, H0, Below.refl _ _⟩
  case round =>
    clear H0
    obtain ⟨i, hi, rfl, HA, hbel⟩ := hrel
    have HB := Lib.hid hbel
    clear hbel
    have i0 : (0 : Int) ≤ (i : Int) := by omega
    by_cases h1 : i < a.length
    · have j1 : (i : Int) < (a.length : Int) := by omega
      by_cases h2 : i < b.length
      · have j2 : (i : Int) < (b.length : Int) := by omega
        have HT := Lib.hid (sharedS_at a b i h1 h2)
        by_cases hc : a[i] = b[i]
        · have q : (((((⟨a.toArray⟩ : ByteArray)[i]'h1).toNat : Nat) : Int) == ((((⟨b.toArray⟩ : ByteArray)[i]'h2).toNat : Nat) : Int)) = true := by
            have e : (⟨a.toArray⟩ : ByteArray)[i]'h1 = (⟨b.toArray⟩ : ByteArray)[i]'h2 := hc
            rw [e]; simp
          have HN := Lib.hid (show i + 1 + sharedS (a.drop (i + 1)) (b.drop (i + 1)) = res by rw [← HA.out, HT.out, if_pos hc]; omega)
          clear HA HT hc
          go_wp2_with fail
          go_quiet (fail)
          go_wp2_with fail
          go_roundw
          case rel => exact ⟨i + 1, by omega, by go_num, HN, Below_drewN HB.out nq⟩
          case measure => simp [intOf]; omega
        · have q : (((((⟨a.toArray⟩ : ByteArray)[i]'h1).toNat : Nat) : Int) == ((((⟨b.toArray⟩ : ByteArray)[i]'h2).toNat : Nat) : Int)) = false := by
            rw [beq_eq_false_iff_ne]
            exact fun e => hc (UInt8.toNat_inj.1 (Int.ofNat_inj.1 e))
          have HN := Lib.hid (show i = res by rw [← HA.out, HT.out, if_neg hc]; omega)
          clear HA HT hc
          go_wp2_with fail
          go_quiet (fail)
          go_wp2_with fail
          go_ret
          exact ⟨by rw [← HN.out]; rfl, Below_drewN HB.out nq⟩
      · have j2 : ¬ (i : Int) < (b.length : Int) := by omega
        have HN := Lib.hid (show i = res by rw [← HA.out, sharedS_end _ _ _ (fun h => h2 h.2)]; omega)
        clear HA
        go_wp2_with fail
        go_quiet (fail)
        go_wp2_with fail
        go_ret
        exact ⟨by rw [← HN.out]; rfl, Below_drewN HB.out nq⟩
    · have j1 : ¬ (i : Int) < (a.length : Int) := by omega
      have HN := Lib.hid (show i = res by rw [← HA.out, sharedS_end _ _ _ (fun h => h1 h.1)]; omega)
      clear HA
      go_wp2_with fail
      go_quiet (fail)
      go_wp2_with fail
      go_ret
      exact ⟨by rw [← HN.out]; rfl, Below_drewN HB.out nq⟩
end Go.Proofs.YtamiacmnobklaaaGreatDoor
/- The document's together, Check, Right. -/
set_option linter.unusedVariables false
namespace Go.Proofs.YtamiacmnobklaaaGreatDoor
open Go.RowKit

def togAt (l : List Txt) (i : Nat) : Int := togF (if i = 0 then none else l[i - 1]?) (l.drop i)
theorem togAt_step (l : List Txt) (i : Nat) (h : i < l.length) : togAt l i = if pathS l[i] ≠ 0 then pathS l[i] else if i = 0 then togAt l (i + 1) else
    if ordS l[i] (l[i - 1]'(by omega)) < 0 then 12 else if l[i] = l[i - 1]'(by omega) ∨ withinS l[i] (l[i - 1]'(by omega)) = true then 9 else togAt l (i + 1) := by
  unfold togAt
  rw [List.drop_eq_getElem_cons h, if_neg (show ¬ i + 1 = 0 by omega), Nat.add_sub_cancel, List.getElem?_eq_getElem h]
  by_cases h0 : i = 0
  · subst h0
    rw [if_pos rfl, if_pos rfl]
    rfl
  · rw [if_neg h0, if_neg h0, List.getElem?_eq_getElem (by omega)]
    rfl
theorem togAt_end (l : List Txt) : togAt l l.length = 0 := by
  unfold togAt
  rw [List.drop_eq_nil_of_le (Nat.le_refl _)]
  split <;> simp [togF]
theorem Row.cell_at {α : Type} {enc : α → Value} {N : Nat → Prop} {w : World} {a : Option Addr} {m c : Nat} {xs : List α} (h : Row enc N w (.slice a m c) xs) {i : Nat} (hi : i < xs.length) : ∃ g o, a = some ⟨g, o, none⟩ ∧ ∀ k (hk : k < xs.length), w.cell? ⟨g, o + k, none⟩ = some (enc xs[k]) := by
  obtain ⟨a', c', hv, hc⟩ := h
  injection hv with e1 _ _
  subst e1
  obtain ⟨g, o, rfl, _, _⟩ := hc i hi
  refine ⟨g, o, rfl, fun k hk => ?_⟩
  obtain ⟨g', o', he, _, h'⟩ := hc k hk
  simp at he
  obtain ⟨rfl, rfl⟩ := he
  exact h'
set_option maxRecDepth 100000 in
set_option maxHeartbeats 2000000 in
theorem refTog_any (v : Value) (l : List Txt) (w : World) (hrow : Row strE (fun _ => True) w v l) (hx : ∀ x ∈ l, x.length ≤ 140737488351232) (hll : l.length ≤ 1000000) :
    Calls Tryz.prog 43 #[v] w fun e w' => e = .returned (.int .i64 (togS l)) ∧ Below w.heap.size w w' := by
  obtain ⟨va, vc, hv⟩ : ∃ a c, v = .slice a l.length c := by obtain ⟨a, c, hv, _⟩ := hrow; exact ⟨a, c, hv⟩
  subst hv
  by_cases h : 256 < l.length
  · have j : (256 : Int) < (l.length : Int) := by omega
    have HR := Lib.hid (show togS l = 7 from if_pos h)
    clear h
    go_enter Tryz.func43, Tryz.ntmps43
    go_wp2_with fail
    go_ret
    exact ⟨by rw [HR.out]; rfl, Below.refl _ _⟩
  · have j : ¬ (256 : Int) < (l.length : Int) := by omega
    have HR := Lib.hid (show togAt l 0 = togS l by unfold togS; rw [if_neg h]; rfl)
    have HX := Lib.hid hx
    have HRO := Lib.hid hrow
    have hlb : l.length ≤ 256 := by omega
    generalize togS l = res at *
    clear h hx hrow
    go_enter Tryz.func43, Tryz.ntmps43
    go_wp2_with fail
    go_loopw [3] (fun v3 wr => ∃ i : Nat, i ≤ l.length ∧ v3 = .int .i64 i ∧ Hid (togAt l i = res) ∧ Below w.heap.size w wr) (fun v3 _ => l.length - (intOf v3).toNat)
    case atStart => exact ⟨0, by omega, rfl, HR, Below.refl _ _⟩
    case round =>
      clear HR
      obtain ⟨i, hi, rfl, HA, hbel⟩ := hrel
      have HB := Lib.hid hbel
      clear hbel
      have i0 : (0 : Int) ≤ (i : Int) := by omega
      by_cases hlt : i < l.length
      · have j1 : (i : Int) < (l.length : Int) := by omega
        have HT := Lib.hid (togAt_step l i hlt)
        obtain ⟨g, o, rfl, hcell⟩ := HRO.out.cell_at hlt
        have HC := Lib.hid hcell
        have c1 : wr.cell? ⟨g, o + i, none⟩ = some (.string ⟨l[i].toArray⟩) := (HB.out.cell (p := ⟨g, o + i, none⟩) (World.block_lt_of_cell? w _ (hcell i hlt))).trans (hcell i hlt)
        have hxl := HX.out l[i] (List.getElem_mem hlt)
        have PA := Lib.hid (refPath_any l[i] wr hxl)
        by_cases hp : pathS l[i] = 0
        · rw [hp] at PA
          have HC2 := Lib.hid (fun w' (hb : Below wr.heap.size wr w') (k : Nat) (hk : k < l.length) => show w'.cell? ⟨g, o + k, none⟩ = some (.string ⟨l[k].toArray⟩) from
            ((HB.out.trans (hb.mono HB.out.size)).cell (p := ⟨g, o + k, none⟩) (World.block_lt_of_cell? w _ (hcell k hk))).trans (hcell k hk))
          by_cases hi0 : i = 0
          · have HN := Lib.hid (show togAt l 1 = res by rw [← HA.out, HT.out, if_neg (by rw [hp]; simp), if_pos hi0, hi0])
            generalize l[i] = x at *
            clear HA HT hp hcell
            subst hi0
            rw [Nat.add_zero] at c1
            go_wp2_with fail
            refine PA.out.mono ?_
            rintro e w1 ⟨rfl, hb1⟩
            have HB1 := Lib.hid (HB.out.trans (hb1.mono HB.out.size))
            clear hb1 PA c1 HC HC2
            go_wp2_with fail
            go_quiet (fail)
            have HB2 := Lib.hid (Below_drewN HB1.out nq)
            generalize w1.drewN nq = w2 at *
            go_wp2_with fail
            go_quiet (fail)
            go_wp2_with fail
            go_roundw
            case rel => exact ⟨1, by omega, by go_num, HN, Below_drewN HB2.out nq⟩
            case measure => simp [intOf]; omega
          · obtain ⟨im, him⟩ : ∃ im, im = i - 1 := ⟨_, rfl⟩
            have him2 : im < l.length := by omega
            have W1 : IntKind.i64.wrap ((i : Int) - 1) = (im : Int) := by rw [IntKind.wrap_i64]; omega
            have W2 : (i : Int) - 1 = (im : Int) := by omega
            have m0 : (0 : Int) ≤ (im : Int) := by omega
            have m1 : (im : Int) < (l.length : Int) := by omega
            have k0 : (0 : Int) < (i : Int) := by omega
            have kb1 : decide ((0 : Int) < (i : Int)) = true := decide_eq_true k0
            have kb2 : decide (0 < i) = true := decide_eq_true (by omega)
            have HT2 := Lib.hid (show togAt l i = if ordS l[i] l[im] < 0 then 12 else if l[i] = l[im] ∨ withinS l[i] l[im] = true then 9 else togAt l (i + 1) by
              rw [HT.out, if_neg (by rw [hp]; simp), if_neg hi0]
              subst him
              rfl)
            have hyl := HX.out l[im] (List.getElem_mem him2)
            have HCi := Lib.hid (fun w' hb => HC2.out w' hb i hlt)
            have HCm := Lib.hid (fun w' hb => HC2.out w' hb im him2)
            generalize l[i] = x at *
            generalize l[im] = y at *
            have OR := fun w' => Lib.hid (refOrder_any x y w' hxl hyl)
            have WI := fun w' => Lib.hid (refWithin_any x y w' hxl hyl)
            clear HT hp hcell HC HC2 him hi0
            go_wp2_with fail
            refine PA.out.mono ?_
            rintro e w1 ⟨rfl, hb1⟩
            have d1 := HCi.out w1 hb1
            have d2 := HCm.out w1 hb1
            have HB1 := Lib.hid (HB.out.trans (hb1.mono HB.out.size))
            have HBR := Lib.hid hb1
            clear hb1 PA c1
            go_wp2_with fail
            by_cases ho : ordS x y < 0
            · have HN := Lib.hid (show 12 = res by rw [← HA.out, HT2.out, if_pos ho])
              clear HT2 HA WI
              generalize ordS x y = oxy at *
              have ob : decide (oxy < 0) = true := decide_eq_true ho
              go_quiet (exact quiet_left (OR _).out)
              go_wp2_with fail
              go_ret
              exact ⟨by rw [← HN.out]; rfl, Below_drewN HB1.out nq⟩
            · have HT3 := Lib.hid (show (if x = y ∨ withinS x y = true then 9 else togAt l (i + 1)) = res by rw [← HA.out, HT2.out, if_neg ho])
              clear HT2 HA
              generalize ordS x y = oxy at *
              have ob : decide (oxy < 0) = false := decide_eq_false ho
              go_quiet (exact quiet_left (OR _).out)
              have e1 := HCi.out (w1.drewN nq) (Below_drewN HBR.out nq)
              have e2 := HCm.out (w1.drewN nq) (Below_drewN HBR.out nq)
              have HB2 := Lib.hid (Below_drewN HB1.out nq)
              clear d1 d2 OR ho ob HCi HCm HBR
              generalize w1.drewN nq = w2 at *
              go_wp2_with fail
              by_cases hxy : x = y
              · have HN := Lib.hid (show 9 = res by rw [← HT3.out, if_pos (.inl hxy)])
                subst hxy
                have q : (x == x) = true := by simp
                clear HT3 WI
                go_quiet (fail)
                go_wp2_with fail
                go_ret
                exact ⟨by rw [← HN.out]; rfl, Below_drewN HB2.out nq⟩
              · have q : (x == y) = false := by simp [hxy]
                by_cases hw : withinS x y = true
                · have HN := Lib.hid (show 9 = res by rw [← HT3.out, if_pos (.inr hw)])
                  rw [hw] at WI
                  clear HT3 hw hxy
                  go_quiet (exact quiet_left (WI _).out)
                  go_wp2_with fail
                  go_ret
                  exact ⟨by rw [← HN.out]; rfl, Below_drewN HB2.out nq⟩
                · have HN := Lib.hid (show togAt l (i + 1) = res by rw [← HT3.out, if_neg (fun h => h.elim hxy hw)])
                  rw [show withinS x y = false by simpa using hw] at WI
                  clear HT3 hw hxy
                  go_quiet (exact quiet_left (WI _).out)
                  go_wp2_with fail
                  go_roundw
                  case rel => exact ⟨i + 1, by omega, by go_num, HN, Below_drewN HB2.out nq⟩
                  case measure => simp [intOf]; omega
        · have q : (pathS l[i] != 0) = true := by simp [hp]
          have HN := Lib.hid (show pathS l[i] = res by rw [← HA.out, HT.out, if_pos hp])
          generalize pathS l[i] = pe at *
          generalize l[i] = x at *
          clear HA HT hp hcell HC
          go_wp2_with fail
          refine PA.out.mono ?_
          rintro e w1 ⟨rfl, hb1⟩
          have HB1 := Lib.hid (HB.out.trans (hb1.mono HB.out.size))
          clear hb1
          go_wp2_with fail
          go_ret
          exact ⟨by rw [← HN.out]; rfl, HB1.out⟩
      · obtain rfl : i = l.length := by omega
        have j1 : ¬ (l.length : Int) < (l.length : Int) := by omega
        have HN := Lib.hid (show 0 = res by rw [← HA.out, togAt_end])
        clear HA
        go_wp2_with fail
        go_ret
        exact ⟨by rw [← HN.out]; rfl, HB.out⟩
end Go.Proofs.YtamiacmnobklaaaGreatDoor
/- The document's Check. -/
set_option linter.unusedVariables false
namespace Go.Proofs.YtamiacmnobklaaaGreatDoor
open Go.RowKit

theorem ElAt.f0 {w : World} {g o : Nat} {x : FileD} (h : ElAt encF w g o x) : w.cell? ⟨g, o, none⟩ = some (.string ⟨x.path.toArray⟩) := h 0 _ rfl
theorem ElAt.f1 {w : World} {g o : Nat} {x : FileD} (h : ElAt encF w g o x) : w.cell? ⟨g, o + 1, none⟩ = some (.int .i64 x.mode) := h 1 _ rfl
theorem ElAt.f2 {w : World} {g o : Nat} {x : FileD} (h : ElAt encF w g o x) : w.cell? ⟨g, o + 2, none⟩ = some (.string ⟨x.data.toArray⟩) := h 2 _ rfl
theorem firstE_at {α : Type} (E : α → Int) (l : List α) (i : Nat) (h : i < l.length) : firstE E (l.drop i) = if E l[i] ≠ 0 then E l[i] else firstE E (l.drop (i + 1)) := by
  rw [List.drop_eq_getElem_cons h]; rfl
theorem firstE_end {α : Type} (E : α → Int) (l : List α) : firstE E (l.drop l.length) = 0 := by rw [List.drop_eq_nil_of_le (Nat.le_refl _)]; rfl
theorem RowN.el {α : Type} {enc : α → List Value} {k : Nat} {N : Nat → Prop} {w : World} {a : Option Addr} {m c : Nat} {xs : List α} (h : RowN enc k N w (.slice a m c) xs) {i : Nat} (hi : i < xs.length) : ∃ g o, a = some ⟨g, o, none⟩ ∧ ∀ j (hj : j < xs.length), ElAt enc w g (o + j * k) xs[j] := by
  obtain ⟨a', c', hv, _, hc⟩ := h
  injection hv with e1 _ _
  subst e1
  obtain ⟨g, o, rfl, _, _⟩ := hc i hi
  refine ⟨g, o, rfl, fun j hj => ?_⟩
  obtain ⟨g', o', he, _, h'⟩ := hc j hj
  simp at he
  obtain ⟨rfl, rfl⟩ := he
  exact h'
theorem take_map_succ {α β : Type} (f : α → β) (l : List α) (i : Nat) (h : i < l.length) : (l.take (i + 1)).map f = (l.take i).map f ++ [f l[i]] := by
  rw [List.take_succ_eq_append_getElem h, List.map_append]; rfl
set_option maxRecDepth 100000 in
set_option maxHeartbeats 2000000 in
theorem refCheck_any (v : Value) (xs : List FileD) (w : World) (hrow : RowN encF 3 (fun _ => True) w v xs) (hok : ∀ x ∈ xs, FileOk x) (hl : xs.length ≤ 1000000) :
    Calls Tryz.prog 15 #[v] w fun e w' => e = .returned (.int .i64 (checkS xs)) ∧ Below w.heap.size w w' := by
  obtain ⟨va, vc, hv, _⟩ := hrow.slice
  subst hv
  have HRO := Lib.hid hrow
  have HOK := Lib.hid hok
  have HCS := Lib.hid (show (if togS (xs.map (·.path)) ≠ 0 then togS (xs.map (·.path)) else firstE fileE (xs.drop 0)) = checkS xs from rfl)
  generalize checkS xs = res at *
  clear hrow hok
  go_enter Tryz.func15, Tryz.ntmps15
  go_wp2_with fail
  go_loopw [3, 4] (fun v3 v4 wr => ∃ i : Nat, i ≤ xs.length ∧ v4 = .int .i64 i ∧ OwnL strE wr w.heap.size 9 v3 ((xs.take i).map (·.path)) ∧ Below w.heap.size w wr) (fun _ v4 _ => xs.length - (intOf v4).toNat)
  case atStart => exact ⟨0, by omega, rfl, OwnL.nil _ _ _ _, Below.refl _ _⟩
  case round =>
    obtain ⟨i, hi, rfl, hown, hbel⟩ := hrel
    have HO := Lib.hid hown
    have HB := Lib.hid hbel
    clear hown hbel
    have i0 : (0 : Int) ≤ (i : Int) := by omega
    obtain ⟨wa, wm, wc', hv⟩ := own_slice HO.out
    subst hv
    have hvm : wm = ((xs.take i).map (·.path)).length := own_lenV HO.out
    by_cases hlt : i < xs.length
    · have j1 : (i : Int) < (xs.length : Int) := by omega
      obtain ⟨g, o, rfl, hel⟩ := HRO.out.el hlt
      have c0 := ((hel i hlt).new HB.out).f0
      have HT := Lib.hid (take_map_succ (·.path) xs i hlt)
      have hol : ((xs.take i).map (·.path)).length ≤ 1000000 := by rw [List.length_map, List.length_take]; omega
      generalize (xs.take i).map (·.path) = out at *
      generalize xs[i].path = p at *
      subst hvm
      clear hel
      go_wp2_with (at_builtin; refine append_elem (enc := strE) (w := wr) (by rfl) (.tmp 13) (.tmp 19) 54 9 (.string ByteArray.empty) 16 (by rfl) Tryz.underlying54 info_str (by rfl) w.heap.size _ out p (by rfl) (by rfl) HO.out (by rfl) (by omega) (by unfold maxLen; omega) HB.out.size ?_; intro v' w7 hown7 hb7 _; have HO7 := Lib.hid hown7; have HB7 := Lib.hid (HB.out.trans hb7); clear hown7 hb7)
      go_roundw
      case rel => exact ⟨i + 1, by omega, by go_num, by rw [HT.out]; exact HO7.out, HB7.out⟩
      case measure => simp [intOf]; omega
    · have j1 : ¬ (i : Int) < (xs.length : Int) := by omega
      have HPL := Lib.hid (show (xs.take i).map (·.path) = xs.map (·.path) by rw [List.take_of_length_le (by omega)])
      rw [HPL.out] at HO hvm
      have TG := Lib.hid (refTog_any _ (xs.map (·.path)) wr HO.out.any (fun x hx => by
        obtain ⟨y, hy, rfl⟩ := List.mem_map.1 hx
        exact (HOK.out y hy).p) (by rw [List.length_map]; omega))
      clear hvm HPL
      by_cases ht : togS (xs.map (·.path)) = 0
      · rw [if_neg (by rw [ht]; simp)] at HCS
        rw [ht] at TG
        generalize xs.map (·.path) = pl at *
        clear ht
        go_wp2_with fail
        refine TG.out.mono ?_
        rintro e w1 ⟨rfl, hb1⟩
        have HB1 := Lib.hid (HB.out.trans (hb1.mono HB.out.size))
        clear hb1 TG HB HO
        go_wp2_with fail
        go_loopw [6] (fun v6 wr => ∃ k : Nat, k ≤ xs.length ∧ v6 = .int .i64 k ∧ Hid (firstE fileE (xs.drop k) = res) ∧ w1 = wr) (fun v6 _ => xs.length - (intOf v6).toNat)
        case atStart => exact ⟨0, by omega, rfl, HCS, rfl⟩
        case round =>
          clear HCS
          obtain ⟨k, hk, rfl, HA, rfl⟩ := hrel
          have k0 : (0 : Int) ≤ (k : Int) := by omega
          by_cases hlk : k < xs.length
          · have m1 : (k : Int) < (xs.length : Int) := by omega
            have HT := Lib.hid (firstE_at fileE xs k hlk)
            obtain ⟨g, o, rfl, hel⟩ := HRO.out.el hlk
            have hel1 := (hel k hlk).new HB1.out
            have c1 := hel1.f1
            have c2 := hel1.f2
            have hdl := (HOK.out xs[k] (List.getElem_mem hlk)).d
            have hmb := (HOK.out xs[k] (List.getElem_mem hlk)).m
            generalize xs[k] = x at *
            obtain ⟨p, md, dt⟩ := x
            dsimp only at c1 c2 hdl hmb
            have SD := Lib.hid (show (⟨dt.toArray⟩ : ByteArray).size = dt.length from rfl)
            clear hel hel1
            by_cases m2 : md < 0
            · have HN := Lib.hid (show 11 = res by rw [← HA.out, HT.out, if_pos (by unfold fileE; rw [if_pos (.inl m2)]; decide)]; unfold fileE; rw [if_pos (.inl m2)])
              clear HA HT
              go_wp2_with fail
              go_ret
              exact ⟨by rw [← HN.out]; rfl, HB1.out⟩
            · by_cases m3 : 511 < md
              · have HN := Lib.hid (show 11 = res by rw [← HA.out, HT.out, if_pos (by unfold fileE; rw [if_pos (.inr m3)]; decide)]; unfold fileE; rw [if_pos (.inr m3)])
                clear HA HT
                go_wp2_with fail
                go_ret
                exact ⟨by rw [← HN.out]; rfl, HB1.out⟩
              · have hnm : ¬ (md < 0 ∨ 511 < md) := by omega
                by_cases m4 : 65536 < dt.length
                · have m5 : (65536 : Int) < (dt.length : Int) := by omega
                  have HN := Lib.hid (show 4 = res by rw [← HA.out, HT.out, if_pos (by unfold fileE; rw [if_neg hnm, if_pos m4]; decide)]; unfold fileE; rw [if_neg hnm, if_pos m4])
                  clear HA HT hnm
                  go_wp2_with fail
                  go_ret
                  exact ⟨by rw [← HN.out]; rfl, HB1.out⟩
                · have m5 : ¬ (65536 : Int) < (dt.length : Int) := by omega
                  have HN := Lib.hid (show firstE fileE (xs.drop (k + 1)) = res by rw [← HA.out, HT.out, if_neg (by unfold fileE; rw [if_neg hnm, if_neg m4]; decide)])
                  clear HA HT hnm
                  go_wp2_with fail
                  go_roundw
                  case rel => exact ⟨k + 1, by omega, by go_num, HN, trivial⟩
                  case measure => simp [intOf]; omega
          · obtain rfl : k = xs.length := by omega
            have m1 : ¬ (xs.length : Int) < (xs.length : Int) := by omega
            have HN := Lib.hid (show 0 = res by rw [← HA.out, firstE_end])
            clear HA
            go_wp2_with fail
            go_ret
            exact ⟨by rw [← HN.out]; rfl, HB1.out⟩
      · rw [if_pos ht] at HCS
        have q : (togS (xs.map (·.path)) != 0) = true := by simp [ht]
        generalize togS (xs.map (·.path)) = te at *
        generalize xs.map (·.path) = pl at *
        clear ht
        go_wp2_with fail
        refine TG.out.mono ?_
        rintro e w1 ⟨rfl, hb1⟩
        have HB1 := Lib.hid (HB.out.trans (hb1.mono HB.out.size))
        clear hb1 TG HB HO
        go_wp2_with fail
        go_ret
        exact ⟨by rw [← HCS.out]; rfl, HB1.out⟩
end Go.Proofs.YtamiacmnobklaaaGreatDoor
/- The document's Right. -/
set_option linter.unusedVariables false
namespace Go.Proofs.YtamiacmnobklaaaGreatDoor
open Go.RowKit

theorem ElAt.i0 {w : World} {g o : Nat} {x : ItemD} (h : ElAt encI w g o x) : w.cell? ⟨g, o, none⟩ = some (.string ⟨x.path.toArray⟩) := h 0 _ rfl
theorem ElAt.i1 {w : World} {g o : Nat} {x : ItemD} (h : ElAt encI w g o x) : w.cell? ⟨g, o + 1, none⟩ = some (.int .i64 x.mode) := h 1 _ rfl
theorem ElAt.i2 {w : World} {g o : Nat} {x : ItemD} (h : ElAt encI w g o x) : w.cell? ⟨g, o + 2, none⟩ = some (.int .i64 x.size) := h 2 _ rfl
theorem ElAt.i3 {w : World} {g o : Nat} {x : ItemD} (h : ElAt encI w g o x) : w.cell? ⟨g, o + 3, none⟩ = some (.string ⟨x.mark.toArray⟩) := h 3 _ rfl
set_option maxRecDepth 100000 in
set_option maxHeartbeats 2000000 in
theorem refRight9_any (v : Value) (xs : List ItemD) (w : World) (hrow : RowN encI 4 (fun _ => True) w v xs) (hok : ∀ x ∈ xs, ItemOk x) (hl : xs.length ≤ 1000000) :
    Calls Tryz.prog 92 #[v] w fun e w' => e = .returned (.int .i64 (rightS xs)) ∧ Below w.heap.size w w' := by
  obtain ⟨va, vc, hv, _⟩ := hrow.slice
  subst hv
  have HRO := Lib.hid hrow
  have HOK := Lib.hid hok
  have HCS := Lib.hid (show (if togS (xs.map (·.path)) ≠ 0 then togS (xs.map (·.path)) else firstE itemE (xs.drop 0)) = rightS xs from rfl)
  generalize rightS xs = res at *
  clear hrow hok
  go_enter Tryz.func92, Tryz.ntmps92
  go_wp2_with fail
  go_loopw [3, 4] (fun v3 v4 wr => ∃ i : Nat, i ≤ xs.length ∧ v4 = .int .i64 i ∧ OwnL strE wr w.heap.size 9 v3 ((xs.take i).map (·.path)) ∧ Below w.heap.size w wr) (fun _ v4 _ => xs.length - (intOf v4).toNat)
  case atStart => exact ⟨0, by omega, rfl, OwnL.nil _ _ _ _, Below.refl _ _⟩
  case round =>
    obtain ⟨i, hi, rfl, hown, hbel⟩ := hrel
    have HO := Lib.hid hown
    have HB := Lib.hid hbel
    clear hown hbel
    have i0 : (0 : Int) ≤ (i : Int) := by omega
    obtain ⟨wa, wm, wc', hv⟩ := own_slice HO.out
    subst hv
    have hvm : wm = ((xs.take i).map (·.path)).length := own_lenV HO.out
    by_cases hlt : i < xs.length
    · have j1 : (i : Int) < (xs.length : Int) := by omega
      obtain ⟨g, o, rfl, hel⟩ := HRO.out.el hlt
      have c0 := ((hel i hlt).new HB.out).i0
      have HT := Lib.hid (take_map_succ (·.path) xs i hlt)
      have hol : ((xs.take i).map (·.path)).length ≤ 1000000 := by rw [List.length_map, List.length_take]; omega
      generalize (xs.take i).map (·.path) = out at *
      generalize xs[i].path = p at *
      subst hvm
      clear hel
      go_wp2_with (at_builtin; refine append_elem (enc := strE) (w := wr) (by rfl) (.tmp 13) (.tmp 19) 54 9 (.string ByteArray.empty) 16 (by rfl) Tryz.underlying54 info_str (by rfl) w.heap.size _ out p (by rfl) (by rfl) HO.out (by rfl) (by omega) (by unfold maxLen; omega) HB.out.size ?_; intro v' w7 hown7 hb7 _; have HO7 := Lib.hid hown7; have HB7 := Lib.hid (HB.out.trans hb7); clear hown7 hb7)
      go_roundw
      case rel => exact ⟨i + 1, by omega, by go_num, by rw [HT.out]; exact HO7.out, HB7.out⟩
      case measure => simp [intOf]; omega
    · have j1 : ¬ (i : Int) < (xs.length : Int) := by omega
      have HPL := Lib.hid (show (xs.take i).map (·.path) = xs.map (·.path) by rw [List.take_of_length_le (by omega)])
      rw [HPL.out] at HO hvm
      have TG := Lib.hid (refTog_any _ (xs.map (·.path)) wr HO.out.any (fun x hx => by
        obtain ⟨y, hy, rfl⟩ := List.mem_map.1 hx
        exact (HOK.out y hy).p) (by rw [List.length_map]; omega))
      clear hvm HPL
      by_cases ht : togS (xs.map (·.path)) = 0
      · rw [if_neg (by rw [ht]; simp)] at HCS
        rw [ht] at TG
        generalize xs.map (·.path) = pl at *
        clear ht
        go_wp2_with fail
        refine TG.out.mono ?_
        rintro e w1 ⟨rfl, hb1⟩
        have HB1 := Lib.hid (HB.out.trans (hb1.mono HB.out.size))
        clear hb1 TG HB HO
        go_wp2_with fail
        go_loopw [6] (fun v6 wr => ∃ k : Nat, k ≤ xs.length ∧ v6 = .int .i64 k ∧ Hid (firstE itemE (xs.drop k) = res) ∧ w1 = wr) (fun v6 _ => xs.length - (intOf v6).toNat)
        case atStart => exact ⟨0, by omega, rfl, HCS, rfl⟩
        case round =>
          clear HCS
          obtain ⟨k, hk, rfl, HA, rfl⟩ := hrel
          have k0 : (0 : Int) ≤ (k : Int) := by omega
          by_cases hlk : k < xs.length
          · have m1 : (k : Int) < (xs.length : Int) := by omega
            have HT := Lib.hid (firstE_at itemE xs k hlk)
            obtain ⟨g, o, rfl, hel⟩ := HRO.out.el hlk
            have hel1 := (hel k hlk).new HB1.out
            have c1 := hel1.i1
            have c2 := hel1.i2
            have c3 := hel1.i3
            have hkl := (HOK.out xs[k] (List.getElem_mem hlk)).k
            have hmb := (HOK.out xs[k] (List.getElem_mem hlk)).m
            have hsb := (HOK.out xs[k] (List.getElem_mem hlk)).s
            generalize xs[k] = x at *
            obtain ⟨p, md, sz, mk⟩ := x
            dsimp only at c1 c2 c3 hkl hmb hsb
            have SD := Lib.hid (show (⟨mk.toArray⟩ : ByteArray).size = mk.length from rfl)
            clear hel hel1
            have HE := Lib.hid (show itemE ⟨p, md, sz, mk⟩ = if md < 0 ∨ 511 < md then 11 else if sz < 0 ∨ 65536 < sz then 4 else if mk.length ≠ 32 then 5 else 0 from rfl)
            generalize itemE ⟨p, md, sz, mk⟩ = ie at *
            by_cases hm : md < 0 ∨ 511 < md
            · have HN := Lib.hid (show 11 = res by rw [← HA.out, HT.out, HE.out, if_pos hm, if_pos (by decide)])
              have hcc : md < 0 ∨ (¬ md < 0 ∧ 511 < md) := by omega
              clear HA HT HE hm
              rcases hcc with m2 | ⟨m2, m3⟩
              all_goals
                go_wp2_with fail
                go_ret
                exact ⟨by rw [← HN.out]; rfl, HB1.out⟩
            · have m2 : ¬ md < 0 := fun h => hm (.inl h)
              have m3 : ¬ 511 < md := fun h => hm (.inr h)
              by_cases hs : sz < 0 ∨ 65536 < sz
              · have HN := Lib.hid (show 4 = res by rw [← HA.out, HT.out, HE.out, if_neg hm, if_pos hs, if_pos (by decide)])
                have hcc : sz < 0 ∨ (¬ sz < 0 ∧ 65536 < sz) := by omega
                clear HA HT HE hm hs
                rcases hcc with m4 | ⟨m4, m5⟩
                all_goals
                  go_wp2_with fail
                  go_ret
                  exact ⟨by rw [← HN.out]; rfl, HB1.out⟩
              · have m4 : ¬ sz < 0 := fun h => hs (.inl h)
                have m5 : ¬ 65536 < sz := fun h => hs (.inr h)
                by_cases hk32 : mk.length = 32
                · have q : ((mk.length : Int) != 32) = false := by rw [hk32]; rfl
                  have e5 : ie = 0 := by rw [HE.out, if_neg hm, if_neg hs, if_neg (fun h => h hk32)]
                  have HN := Lib.hid (show firstE itemE (xs.drop (k + 1)) = res by rw [← HA.out, HT.out, if_neg (by rw [e5]; decide)])
                  clear e5
                  clear HA HT HE hm hs hk32
                  go_wp2_with fail
                  go_roundw
                  case rel => exact ⟨k + 1, by omega, by go_num, HN, trivial⟩
                  case measure => simp [intOf]; omega
                · have q : ((mk.length : Int) != 32) = true := by rw [bne_iff_ne]; omega
                  have HN := Lib.hid (show 5 = res by rw [← HA.out, HT.out, HE.out, if_neg hm, if_neg hs, if_pos hk32, if_pos (by decide)])
                  clear HA HT HE hm hs hk32
                  go_wp2_with fail
                  go_ret
                  exact ⟨by rw [← HN.out]; rfl, HB1.out⟩
          · obtain rfl : k = xs.length := by omega
            have m1 : ¬ (xs.length : Int) < (xs.length : Int) := by omega
            have HN := Lib.hid (show 0 = res by rw [← HA.out, firstE_end])
            clear HA
            go_wp2_with fail
            go_ret
            exact ⟨by rw [← HN.out]; rfl, HB1.out⟩
      · rw [if_pos ht] at HCS
        have q : (togS (xs.map (·.path)) != 0) = true := by simp [ht]
        generalize togS (xs.map (·.path)) = te at *
        generalize xs.map (·.path) = pl at *
        clear ht
        go_wp2_with fail
        refine TG.out.mono ?_
        rintro e w1 ⟨rfl, hb1⟩
        have HB1 := Lib.hid (HB.out.trans (hb1.mono HB.out.size))
        clear hb1 TG HB HO
        go_wp2_with fail
        go_ret
        exact ⟨by rw [← HCS.out]; rfl, HB1.out⟩
end Go.Proofs.YtamiacmnobklaaaGreatDoor
/- The document's Files and Items (two lists that are one), and Sort. -/
set_option linter.unusedVariables false
namespace Go.Proofs.YtamiacmnobklaaaGreatDoor
open Go.RowKit

set_option maxRecDepth 100000 in
set_option maxHeartbeats 1000000 in
theorem filesEq_any (N1 N2 : Nat → Prop) (v1 v2 : Value) (l : List FileD) (w : World) (h1 : RowN encF 3 N1 w v1 l) (h2 : RowN encF 3 N2 w v2 l) (hl : l.length ≤ 2000000) :
    Calls Tryz.prog 22 #[v1, v2] w fun e w' => e = .returned (.bool true) ∧ Below w.heap.size w w' := by
  obtain ⟨a1, c1, rfl, _⟩ := h1.slice
  obtain ⟨a2, c2, rfl, _⟩ := h2.slice
  have HC1 := Lib.hid h1; clear h1
  have HC2 := Lib.hid h2; clear h2
  have q0 : ((l.length : Int) != (l.length : Int)) = false := by simp
  go_enter Tryz.func22, Tryz.ntmps22
  go_wp2
  go_loopw [5] (fun i wr => ∃ k : Nat, k ≤ l.length ∧ i = .int .i64 k ∧ Below w.heap.size w wr) (fun i _ => l.length - (intOf i).toNat)
  case atStart => exact ⟨0, by omega, rfl, Below.refl _ _⟩
  case round =>
    obtain ⟨k, hk, rfl, hbel⟩ := hrel
    have HB := Lib.hid hbel; clear hbel
    by_cases hlt : k < l.length
    · obtain ⟨g1, o1, rfl, hs1⟩ := HC1.out.el hlt
      obtain ⟨g2, o2, rfl, hs2⟩ := HC2.out.el hlt
      have hs1' := (hs1 k hlt).new HB.out
      have hs2' := (hs2 k hlt).new HB.out
      clear hs1 hs2
      generalize l[k] = x at *
      have e0 := hs1'.f0
      have e1 := hs1'.f1
      have e2 := hs1'.f2
      have f0 := hs2'.f0
      have f1 := hs2'.f1
      have f2 := hs2'.f2
      clear hs1' hs2'
      have i1 : (k : Int) < (l.length : Int) := by omega
      have i0 : (0 : Int) ≤ (k : Int) := by omega
      go_wp2_with fail
      go_quiet (fail)
      have HBQ := Lib.hid (HB.out.trans ((Below_drewN (Below.refl wr.heap.size wr) nq).mono HB.out.size))
      generalize wr.drewN nq = w3 at *
      go_wp2_with fail
      go_roundw
      case rel => exact ⟨k + 1, by omega, by go_num, HBQ.out⟩
      case measure => simp [intOf]; omega
    · obtain rfl : k = l.length := by omega
      have i1 : ¬ (l.length : Int) < (l.length : Int) := by omega
      go_wp2_with fail
      go_ret
      exact ⟨rfl, HB.out⟩
theorem ins_mem (x : FileD) : ∀ (l : List FileD) (y : FileD), y ∈ insS x l → y = x ∨ y ∈ l
  | [], y, h => by simp [insS] at h; exact .inl h
  | z :: r, y, h => by
    unfold insS at h
    split at h
    · simp at h ⊢; exact h
    · simp at h ⊢
      rcases h with h | h
      · exact .inr (.inl h)
      · rcases ins_mem x r y h with h | h
        · exact .inl h
        · exact .inr (.inr h)
theorem sort_mem' : ∀ (l acc : List FileD) (y : FileD), y ∈ l.foldl (fun acc x => insS x acc) acc → y ∈ acc ∨ y ∈ l
  | [], acc, y, h => .inl h
  | x :: r, acc, y, h => by
    rcases sort_mem' r (insS x acc) y h with h | h
    · rcases ins_mem x acc y h with h | h
      · exact .inr (by simp [h])
      · exact .inl h
    · exact .inr (by simp [h])
theorem sortS_snoc (l : List FileD) (x : FileD) : sortS (l ++ [x]) = insS x (sortS l) := by unfold sortS; rw [List.foldl_append]; rfl
theorem insS_len (x : FileD) : ∀ l : List FileD, (insS x l).length = l.length + 1
  | [] => rfl
  | y :: r => by
    unfold insS
    split
    · simp
    · simp [insS_len x r]
theorem sortS_len : ∀ n (l : List FileD), l.length = n → (sortS l).length = n := by
  intro n
  induction n with
  | zero => intro l h; rw [List.eq_nil_of_length_eq_zero h]; rfl
  | succ n ih =>
    intro l h
    obtain ⟨m, x, rfl⟩ : ∃ m x, l = m ++ [x] := by
      have hne : l ≠ [] := by intro e; rw [e] at h; simp at h
      exact ⟨l.dropLast, l.getLast hne, (List.dropLast_concat_getLast hne).symm⟩
    rw [sortS_snoc, insS_len, ih m (by simpa using h)]
theorem insS_at (x : FileD) (l : List FileD) (k : Nat) (h : k < l.length) : insS x (l.drop k) = if ordS x.path l[k].path < 0 then x :: l[k] :: l.drop (k + 1) else l[k] :: insS x (l.drop (k + 1)) := by
  rw [List.drop_eq_getElem_cons h]; rfl
theorem sort_mem {i : Nat} {xs : List FileD} (y : FileD) (h : y ∈ sortS (xs.take i)) : y ∈ xs := by
  rcases sort_mem' (xs.take i) [] y h with h | h
  · simp at h
  · exact List.mem_of_mem_take h
theorem info_file : (Tryz.prog.info? 80).map (fun i => (i.zero, i.size, i.bytes)) = some (some (.agg #[.string ByteArray.empty, .int .i64 0, .string ByteArray.empty]), 3, 40) := by kernel_rfl
end Go.Proofs.YtamiacmnobklaaaGreatDoor
