/- The document's Names, name, Path. -/
import Derived.Test.YtamiacmnobklaaaGreatDoorFrame
import Derived.Test.YtamiacmnobklaaaGreatDoorGen
import Derived.Test.YtamiacmnobklaaaGreatDoorInfos
import Derived.Test.YtamiacmnobklaaaGreatDoorMarkMath
import Derived.Test.YtamiacmnobklaaaGreatDoorOwnL
import Derived.Test.YtamiacmnobklaaaGreatDoorCdX
import Derived.Test.YtamiacmnobklaaaGreatDoorRowN
import Derived.Test.YtamiacmnobklaaaGreatDoorRows
import Derived.Test.YtamiacmnobklaaaGreatDoorTreeMath
import Derived.BigQuiet
import Derived.Deep.QuietTactic
import Derived.Lib.Hide
import Derived.WalkKit
import Derived.WalkLawsBesides
import Derived.WalkSpells
set_option linter.unusedVariables false
namespace Go.Proofs.YtamiacmnobklaaaGreatDoor
open Go.RowKit

def strE (l : Txt) : Value := .string ⟨l.toArray⟩
set_option maxRecDepth 100000 in
set_option maxHeartbeats 1000000 in
theorem refNames_any (s : Txt) (w : World) (hs : s.length ≤ 100000) :
    Calls Tryz.prog 105 #[.string ⟨s.toArray⟩] w fun e w' => ∃ v, e = .returned v ∧ OwnL strE w' w.heap.size 9 v (namesS s) ∧ Below w.heap.size w w' := by
  have SL := Lib.hid (show (⟨s.toArray⟩ : ByteArray).size = s.length from rfl)
  have H0 := Lib.hid (show namesG ((s.take 0).drop 0) (s.drop 0) = namesS s from rfl)
  have HNL := Lib.hid (namesG_len s [])
  have HNS := Lib.hid (show namesS s = namesG [] s from rfl)
  rw [← HNS.out] at HNL
  generalize namesS s = res at *
  clear HNS
  go_enter Tryz.func105, Tryz.ntmps105
  go_wp2_with fail
  go_loopw [3, 4, 5] (fun v3 v4 v5 wr => ∃ (i f : Nat) (out : List Txt), i ≤ s.length + 1 ∧ v5 = .int .i64 i ∧ v4 = .int .i64 f ∧ OwnL strE wr w.heap.size 9 v3 out ∧ Hid (i ≤ s.length → f ≤ i ∧ out ++ namesG ((s.take i).drop f) (s.drop i) = res) ∧ Hid (s.length < i → out = res) ∧ Below w.heap.size w wr) (fun _ _ v5 _ => s.length + 1 - (intOf v5).toNat)
  case atStart => exact ⟨0, 0, [], by omega, rfl, rfl, OwnL.nil _ _ _ _, Lib.hid (fun _ => ⟨by omega, H0.out⟩), Lib.hid (fun h => by omega), Below.refl _ _⟩
  case round =>
    clear H0
    obtain ⟨i, f, out, hi, rfl, rfl, hown, HA, HZ, hbel⟩ := hrel
    have HO := Lib.hid hown
    have HB := Lib.hid hbel
    clear hown hbel
    obtain ⟨va, vm, vc, hv⟩ := own_slice HO.out
    subst hv
    have hvm : vm = out.length := own_lenV HO.out
    subst hvm
    have i0 : (0 : Int) ≤ (i : Int) := by omega
    have f0 : (0 : Int) ≤ (f : Int) := by omega
    by_cases hle : i ≤ s.length
    · obtain ⟨hf, hA⟩ := HA.out hle
      have HL := Lib.hid hA
      have j1 : (i : Int) ≤ (s.length : Int) := by omega
      have j2 : (f : Int) ≤ (i : Int) := by omega
      have hol : out.length ≤ 100001 := by
        have h1 := congrArg List.length HL.out
        have h2 := HNL.out
        rw [List.length_append] at h1
        omega
      have EX := Lib.hid (show (⟨s.toArray⟩ : ByteArray).extract f i = ⟨((s.take i).drop f).toArray⟩ from slice_toArray s f i)
      have key : ∀ (hcut : ((i : Int) == (s.length : Int)) = true ∨ (((i : Int) == (s.length : Int)) = false ∧ ∃ h : i < s.length, s[i] = 47)),
          (i = s.length → out ++ [(s.take i).drop f] = res) ∧ (∀ h : i < s.length, s[i] = 47 → out ++ [(s.take i).drop f] ++ namesG ((s.take (i + 1)).drop (i + 1)) (s.drop (i + 1)) = res) := by
        intro _
        constructor
        · intro e
          rw [← HL.out, List.drop_eq_nil_of_le (i := i) (by omega)]
          rfl
        · intro h hc
          rw [← HL.out, List.drop_eq_getElem_cons h, hc, List.append_assoc]
          have e1 : (s.take (i + 1)).drop (i + 1) = [] := List.drop_eq_nil_of_le (by rw [List.length_take]; omega)
          rw [e1]
          show _ = out ++ (if (47 : UInt8) = 47 then (s.take i).drop f :: namesG [] (s.drop (i + 1)) else _)
          rw [if_pos rfl]
          rfl
      by_cases hcase : i = s.length ∨ ∃ h : i < s.length, s[i] = 47
      · have K1 := Lib.hid (fun (e : i = s.length) => (key (.inl (by simp [e]))).1 e)
        have K2 := Lib.hid (fun (h : i < s.length) (hc : s[i] = 47) => (key (.inr ⟨by simp; omega, h, hc⟩)).2 h hc)
        have hq : ((i : Int) == (s.length : Int)) = true ∨ (((i : Int) == (s.length : Int)) = false ∧ ∃ h : i < s.length, (((((⟨s.toArray⟩ : ByteArray)[i]'h).toNat : Nat) : Int) == 47) = true) := by
          rcases hcase with h | ⟨h, hc⟩
          · left; simp [h]
          · right
            refine ⟨by simp; omega, h, ?_⟩
            have e : (⟨s.toArray⟩ : ByteArray)[i]'h = s[i] := rfl
            rw [e, hc]; rfl
        have HCA := Lib.hid hcase
        clear key hcase HA HZ HL hA
        generalize (s.take i).drop f = cur at *
        rcases hq with q1 | ⟨q1, hlt, q2⟩
        all_goals
          go_wp2_with (at_builtin; rw [EX.out]; refine append_elem (enc := strE) (w := wr) (by rfl) (.tmp 22) (.tmp 27) 54 9 (.string ByteArray.empty) 16 (by rfl) Tryz.underlying54 info_str (by rfl) w.heap.size _ out cur (by rfl) (by rfl) HO.out (by rfl) (by omega) (by unfold maxLen; omega) HB.out.size ?_; intro v' w7 hown7 hb7 _; have HO7 := Lib.hid hown7; have HB7 := Lib.hid (HB.out.trans hb7); clear hown7 hb7)
          go_roundw
          case rel =>
            refine ⟨i + 1, i + 1, out ++ [cur], by omega, by go_num, by go_num, HO7.out, Lib.hid (fun h => ⟨Nat.le_refl _, ?_⟩), Lib.hid (fun h => ?_), HB7.out⟩
            · rcases HCA.out with e | ⟨h2, hc⟩
              · omega
              · exact K2.out h2 hc
            · rcases HCA.out with e | ⟨h2, hc⟩
              · exact K1.out e
              · omega
          case measure => simp [intOf]; omega
      · have hlt : i < s.length := by
          by_cases h : i = s.length
          · exact absurd (.inl h) hcase
          · omega
        have hc : ¬ s[i] = 47 := fun h => hcase (.inr ⟨hlt, h⟩)
        have q1 : ((i : Int) == (s.length : Int)) = false := by simp; omega
        have q2 : (((((⟨s.toArray⟩ : ByteArray)[i]'hlt).toNat : Nat) : Int) == 47) = false := by
          have e : (⟨s.toArray⟩ : ByteArray)[i]'hlt = s[i] := rfl
          rw [e, beq_eq_false_iff_ne]
          intro h
          exact hc (UInt8.toNat_inj.1 (by show s[i].toNat = 47; omega))
        have HN := Lib.hid (show out ++ namesG ((s.take (i + 1)).drop f) (s.drop (i + 1)) = res by
          rw [← HL.out, List.drop_eq_getElem_cons hlt, List.take_succ_eq_append_getElem hlt, List.drop_append_of_le_length (by rw [List.length_take]; omega)]
          show _ = out ++ (if s[i] = 47 then _ else namesG ((s.take i).drop f ++ [s[i]]) (s.drop (i + 1)))
          rw [if_neg hc])
        clear key hcase HA HZ HL hA EX hc
        go_wp2_with fail
        go_roundw
        case rel => exact ⟨i + 1, f, out, by omega, by go_num, rfl, HO.out, Lib.hid (fun h => ⟨by omega, HN.out⟩), Lib.hid (fun h => by omega), HB.out⟩
        case measure => simp [intOf]; omega
    · have j1 : ¬ (i : Int) ≤ (s.length : Int) := by omega
      have HR := Lib.hid (HZ.out (by omega))
      clear HA HZ
      go_wp2_with fail
      go_ret
      exact ⟨_, rfl, by rw [← HR.out]; exact HO.out, HB.out⟩
theorem all_at (s : Txt) (i : Nat) (h : i < s.length) : (s.drop i).all okC = (okC s[i] && (s.drop (i + 1)).all okC) := by
  rw [List.drop_eq_getElem_cons h]; rfl
set_option maxRecDepth 100000 in
set_option maxHeartbeats 1000000 in
theorem refName_any (s : Txt) (w : World) (hs : s.length ≤ 140737488351232) :
    Calls Tryz.prog 106 #[.string ⟨s.toArray⟩] w fun e w' => e = .returned (.bool (nameS s)) ∧ w = w' := by
  have SL := Lib.hid (show (⟨s.toArray⟩ : ByteArray).size = s.length from rfl)
  by_cases h0 : s = []
  · subst h0
    go_enter Tryz.func106, Tryz.ntmps106
    go_wp2_with fail
    go_ret
    exact ⟨rfl, rfl⟩
  · have q0 : s.isEmpty = false := by cases s <;> simp_all
    have e0 : (s == []) = false := by cases s <;> simp_all
    by_cases h1 : s = [46]
    · have q1 : (s == [46]) = true := by rw [h1]; rfl
      have HR := Lib.hid (show nameS s = false by rw [h1]; rfl)
      clear h0 h1
      go_enter Tryz.func106, Tryz.ntmps106
      go_wp2_with fail
      go_ret
      exact ⟨by rw [HR.out]; rfl, rfl⟩
    · have q1 : (s == [46]) = false := by simp [h1]
      by_cases h2 : s = [46, 46]
      · have q2 : (s == [46, 46]) = true := by rw [h2]; rfl
        have HR := Lib.hid (show nameS s = false by rw [h2]; rfl)
        clear h0 h1 h2
        go_enter Tryz.func106, Tryz.ntmps106
        go_wp2_with fail
        go_ret
        exact ⟨by rw [HR.out]; rfl, rfl⟩
      · have q2 : (s == [46, 46]) = false := by simp [h2]
        by_cases h3 : 32 < s.length
        · have j3 : (32 : Int) < (s.length : Int) := by omega
          have HR := Lib.hid (show nameS s = false by unfold nameS; rw [decide_eq_false (show ¬ s.length ≤ 32 by omega)]; simp)
          clear h0 h1 h2 h3
          go_enter Tryz.func106, Tryz.ntmps106
          go_wp2_with fail
          go_ret
          exact ⟨by rw [HR.out]; rfl, rfl⟩
        · have j3 : ¬ (32 : Int) < (s.length : Int) := by omega
          have HA := Lib.hid (show (s.drop 0).all okC = nameS s by
            unfold nameS
            rw [e0, q1, q2, decide_eq_true (show s.length ≤ 32 by omega)]; simp)
          have hs32 : s.length ≤ 32 := by omega
          generalize nameS s = res at *
          clear h0 h1 h2 h3 e0
          go_enter Tryz.func106, Tryz.ntmps106
          go_wp2_with fail
          go_loopw [3] (fun v3 wr => ∃ i : Nat, i ≤ s.length ∧ v3 = .int .i64 i ∧ Hid ((s.drop i).all okC = res) ∧ w = wr) (fun v3 _ => s.length - (intOf v3).toNat)
          case atStart => exact ⟨0, by omega, rfl, HA, rfl⟩
          case round =>
            clear HA
            obtain ⟨i, hi, rfl, HA, rfl⟩ := hrel
            have i0 : (0 : Int) ≤ (i : Int) := by omega
            by_cases hlt : i < s.length
            · have j1 : (i : Int) < (s.length : Int) := by omega
              have HT := Lib.hid (all_at s i hlt)
              have e : (⟨s.toArray⟩ : ByteArray)[i]'hlt = s[i] := rfl
              by_cases c1 : s[i].toNat < 33
              · have k1 : ((((⟨s.toArray⟩ : ByteArray)[i]'hlt).toNat : Nat) : Int) < 33 := by rw [e]; omega
                have HR := Lib.hid (show false = res by rw [← HA.out, HT.out]; unfold okC; rw [decide_eq_false (show ¬ 33 ≤ s[i].toNat by omega)]; simp)
                clear HA HT e c1
                go_wp2_with fail
                go_ret
                exact ⟨by rw [← HR.out]; rfl, rfl⟩
              · have k1 : ¬ ((((⟨s.toArray⟩ : ByteArray)[i]'hlt).toNat : Nat) : Int) < 33 := by rw [e]; omega
                by_cases c2 : 126 < s[i].toNat
                · have k2 : (126 : Int) < ((((⟨s.toArray⟩ : ByteArray)[i]'hlt).toNat : Nat) : Int) := by rw [e]; omega
                  have HR := Lib.hid (show false = res by rw [← HA.out, HT.out]; unfold okC; rw [decide_eq_false (show ¬ s[i].toNat ≤ 126 by omega)]; simp)
                  clear HA HT e c1 c2
                  go_wp2_with fail
                  go_ret
                  exact ⟨by rw [← HR.out]; rfl, rfl⟩
                · have k2 : ¬ (126 : Int) < ((((⟨s.toArray⟩ : ByteArray)[i]'hlt).toNat : Nat) : Int) := by rw [e]; omega
                  have HN := Lib.hid (show (s.drop (i + 1)).all okC = res by rw [← HA.out, HT.out]; unfold okC; rw [decide_eq_true (show 33 ≤ s[i].toNat by omega), decide_eq_true (show s[i].toNat ≤ 126 by omega)]; simp)
                  clear HA HT e c1 c2
                  go_wp2_with fail
                  go_roundw
                  case rel => exact ⟨i + 1, by omega, by go_num, HN, trivial⟩
                  case measure => simp [intOf]; omega
            · have j1 : ¬ (i : Int) < (s.length : Int) := by omega
              have HR := Lib.hid (show true = res by rw [← HA.out, List.drop_eq_nil_of_le (by omega)]; rfl)
              clear HA
              go_wp2_with fail
              go_ret
              exact ⟨by rw [← HR.out]; rfl, rfl⟩
theorem alln_at (l : List Txt) (i : Nat) (h : i < l.length) : (l.drop i).all nameS = (nameS l[i] && (l.drop (i + 1)).all nameS) := by
  rw [List.drop_eq_getElem_cons h]; rfl
theorem namesG_le : ∀ (t cur : Txt), ∀ x ∈ namesG cur t, x.length ≤ cur.length + t.length
  | [], cur, x, hx => by simp [namesG] at hx; subst hx; simp
  | c :: t, cur, x, hx => by
    unfold namesG at hx
    split at hx
    · simp at hx
      rcases hx with rfl | hx
      · omega
      · have := namesG_le t [] x hx; simp at *; omega
    · have := namesG_le t (cur ++ [c]) x hx; simp at *; omega
set_option maxRecDepth 100000 in
set_option maxHeartbeats 1000000 in
theorem refPath_any (s : Txt) (w : World) (hs : s.length ≤ 140737488351232) :
    Calls Tryz.prog 71 #[.string ⟨s.toArray⟩] w fun e w' => e = .returned (.int .i64 (pathS s)) ∧ Below w.heap.size w w' := by
  have SL := Lib.hid (show (⟨s.toArray⟩ : ByteArray).size = s.length from rfl)
  by_cases h : 200 < s.length
  · have j : (200 : Int) < (s.length : Int) := by omega
    have HR := Lib.hid (show pathS s = 4 from if_pos h)
    clear h
    go_enter Tryz.func71, Tryz.ntmps71
    go_wp2_with fail
    go_ret
    exact ⟨by rw [HR.out]; rfl, Below.refl _ _⟩
  · have j : ¬ (200 : Int) < (s.length : Int) := by omega
    have NM := Lib.hid (refNames_any s w (by omega))
    have HR := Lib.hid (show (if ((namesS s).drop 0).all nameS then 0 else 10) = pathS s from (if_neg h).symm)
    have HNL := Lib.hid (namesG_len s [])
    have HNX := Lib.hid (namesG_le s [])
    have HNS := Lib.hid (show namesS s = namesG [] s from rfl)
    rw [← HNS.out] at HNL HNX
    generalize namesS s = nl at *
    generalize pathS s = res at *
    have hsl : s.length ≤ 200 := by omega
    clear h HNS
    go_enter Tryz.func71, Tryz.ntmps71
    go_wp2_with fail
    refine NM.out.mono ?_
    rintro e w1 ⟨v1, rfl, hown, hb1⟩
    have HO := Lib.hid hown
    have HB := Lib.hid hb1
    clear hown hb1 NM
    obtain ⟨va, vm, vc, hv⟩ := own_slice HO.out
    subst hv
    have hvm : vm = nl.length := own_lenV HO.out
    subst hvm
    go_wp2_with fail
    go_loopw [4] (fun v4 wr => ∃ i : Nat, i ≤ nl.length ∧ v4 = .int .i64 i ∧ Hid ((if (nl.drop i).all nameS then (0 : Int) else 10) = res) ∧ w1 = wr) (fun v4 _ => nl.length - (intOf v4).toNat)
    case atStart => exact ⟨0, by omega, rfl, HR, rfl⟩
    case round =>
      clear HR
      obtain ⟨i, hi, rfl, HR, rfl⟩ := hrel
      have i0 : (0 : Int) ≤ (i : Int) := by omega
      have hnl := HNL.out
      have nlb : nl.length ≤ 201 := by omega
      by_cases hlt : i < nl.length
      · have j1 : (i : Int) < (nl.length : Int) := by omega
        have HT := Lib.hid (alln_at nl i hlt)
        obtain ⟨g, o, rfl, _, hcell⟩ : ∃ g o, va = some ⟨g, o, none⟩ ∧ w.heap.size ≤ g ∧ w1.cell? ⟨g, o + i, none⟩ = some (strE nl[i]) := by
          obtain ⟨a, cap, hv, hc⟩ := OwnL.row HO.out
          injection hv with e1 e2 e3
          obtain ⟨b, off, e4, hb, hcell⟩ := hc i hlt
          exact ⟨b, off, e1.trans e4, hb, hcell⟩
        have hxl := HNX.out nl[i] (List.getElem_mem hlt)
        generalize nl[i] = x at *
        unfold strE at hcell
        have NA := Lib.hid (refName_any x w1 (by simp at hxl; omega))
        by_cases hx : nameS x = true
        · rw [hx] at NA
          have HN := Lib.hid (show (if (nl.drop (i + 1)).all nameS then (0 : Int) else 10) = res by rw [← HR.out, HT.out, hx, Bool.true_and])
          clear HR HT hxl hnl hx
          go_wp2_with fail
          refine NA.out.mono ?_
          rintro e w2 ⟨rfl, rfl⟩
          go_wp2_with fail
          go_roundw
          case rel => exact ⟨i + 1, by omega, by go_num, HN, trivial⟩
          case measure => simp [intOf]; omega
        · have hx' : nameS x = false := by simpa using hx
          rw [hx'] at NA
          have HN := Lib.hid (show 10 = res by rw [← HR.out, HT.out, hx', Bool.false_and]; rfl)
          clear HR HT hxl hnl hx hx'
          go_wp2_with fail
          refine NA.out.mono ?_
          rintro e w2 ⟨rfl, rfl⟩
          go_wp2_with fail
          go_ret
          exact ⟨by rw [← HN.out]; rfl, HB.out⟩
      · have j1 : ¬ (i : Int) < (nl.length : Int) := by omega
        have HN := Lib.hid (show 0 = res by rw [← HR.out, List.drop_eq_nil_of_le (by omega)]; rfl)
        clear HR hnl
        go_wp2_with fail
        go_ret
        exact ⟨by rw [← HN.out]; rfl, HB.out⟩
end Go.Proofs.YtamiacmnobklaaaGreatDoor
